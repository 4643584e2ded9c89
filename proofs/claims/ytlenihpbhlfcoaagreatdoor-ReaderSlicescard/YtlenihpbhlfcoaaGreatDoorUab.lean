import Derived.Test.YtlenihpbhlfcoaaGreatDoorUaa
set_option maxHeartbeats 8000000
set_option maxRecDepth 100000
set_option linter.unusedSimpArgs false
set_option linter.unusedVariables false
namespace Go.Proofs.YtlenihpbhlfcoaaGreatDoor
open Go.RowKit
theorem trR_snoc (l : List By) (x : By) (h : isBz x = false) : trR (l ++ [x]) = l ++ [x] := by
 unfold trR;rw [List.reverse_append, List.reverse_singleton, List.singleton_append, List.dropWhile_cons, if_neg (by rw [h]; decide), List.reverse_cons, List.reverse_reverse]
theorem take_snoc (b : List By) (m : Nat) (h : m < b.length) : b.take (m + 1) = b.take m ++ [b[m]] := by
 rw [List.take_add_one, List.getElem?_eq_getElem h]; rfl
theorem trimrA_any {X : Nat → Prop} (w : World) (a : Option Addr) (n c : Nat) (b : List By) (hb : Sl X (.slice a n c) b w) (ab : Nat) (hab : w.heap[ab]? = some (.cells AS 242)) :
  Calls Tryz.prog 169 #[.slice a n c, .pointer (some ⟨ab, 0, none⟩)] w fun e w' => ∃ M : Nat, e = .returned (.slice a M c) ∧ Hid (M ≤ n ∧ b.take M = trR b) ∧ w = w' := by
 refine asP fun P hP => ?_
 have HF : Hid (∀ M, M ≤ n → b.take M = trR b → P (.returned (.slice a M c)) w) := fun M h1 h2 => by rw [hP]; exact ⟨M, rfl, ⟨h1, h2⟩, rfl⟩
 clear hP;obtain ⟨hbn, k1, k2⟩ := sl_len hb;have HR : Hid (∀ I, (hI : I < b.length) → ∃ g o, a = some ⟨g, o, none⟩ ∧ w.cell? ⟨g, o + I, none⟩ = some (.int .u8 b[I].toNat)) := fun I hI => by
  rcases hb with ⟨a', e, e2⟩ | ⟨g, _, o, c', e, e1, e2, hr⟩
  ·subst e2; simp at hI
  ·injection e with e _ ec;exact ⟨g, o, e, hr I hI⟩
 have HC := tHid (fun x : By => asciiHas_any ab x w hab);have HBN := tHid hbn;clear hb hab hbn;go_enter Tryz.func169, Tryz.ntmps169
 go_wp2_with fail
 go_loopg [0] n (fun kx v wr => ∃ M : Nat, M ≤ n ∧ M ≤ kx ∧ v = .slice a M c ∧ wr = w ∧ Hid (trR (b.take M) = trR b))
 case atStart => exact ⟨n, by omega, by omega, rfl, rfl, by show _ = _; rw [List.take_of_length_le (by rw [HBN.out]; exact Nat.le_refl _)]⟩
 case round =>
  obtain ⟨M, hM, hkx, rfl, rfl, HZ⟩ := hrel;by_cases h0 : M = 0
  ·subst h0;have HF2 := tHid (HF.out 0 (by omega) (by rw [← HZ.out]; rfl));clear HF HR HZ HC HBN
   go_wp2_with fail
   exact HF2.out
  ·obtain ⟨M1, rfl⟩ : ∃ M1, M = M1 + 1 := ⟨M - 1, by omega⟩;have hlt : M1 < b.length := by have := HBN.out; omega
   obtain ⟨g, o, rfl, x0⟩ := HR.out M1 hlt;have hz := HZ.out;rw [take_snoc b M1 hlt] at hz;have z1 : (0 : Int) < ((M1 + 1 : Nat) : Int) := by omega
   have z2 : ((M1 + 1 : Nat) : Int) - 1 = (M1 : Int) := by omega
   have HCx := tHid (HC.out b[M1]);cases hx : isBz b[M1] with
   | true =>
    rw [trR_all [b[M1]] (by rw [List.all_cons, hx]; rfl)] at hz;have HN := tHid hz;rw [hx] at HCx;clear HF HR HZ HC HBN hz hx h0;generalize b[M1].toNat = x at *
    go_wp2_with (first | (go_at_call 206; with_reducible refine HCx.out.mono ?_; rintro e w1 ⟨rfl, rfl⟩))
    go_roundg M1
    all_goals (first | omega | exact ⟨M1, by omega, by omega, rfl, rfl, HN⟩)
   | false =>
    rw [trR_snoc _ _ hx] at hz;have HF2 := tHid (HF.out (M1 + 1) hM (by rw [take_snoc b M1 hlt]; exact hz));rw [hx] at HCx;clear HF HR HZ HC HBN hz hx h0;generalize b[M1].toNat = x at *
    go_wp2_with (first | (go_at_call 206; with_reducible refine HCx.out.mono ?_; rintro e w1 ⟨rfl, rfl⟩))
    exact HF2.out
theorem trimr2_any {X : Nat → Prop} (w : World) (a : Option Addr) (n c : Nat) (b : List By) (hb : Sl X (.slice a n c) b w) :
  Calls Tryz.prog 135 #[.slice a n c, .string ⟨#[32, 0]⟩] w fun e w' => ∃ M : Nat, e = .returned (.slice a M c) ∧ Hid (M ≤ n ∧ b.take M = trR b) ∧ Hid (Nw w w') := by
 refine asP fun P hP => ?_
 have HF : Hid (∀ M W, M ≤ n → b.take M = trR b → Nw w W → P (.returned (.slice a M c)) W) := fun M W h1 h2 h3 => by rw [hP]; exact ⟨M, rfl, ⟨h1, h2⟩, h3⟩
 clear hP;obtain ⟨hbn, k1, k2⟩ := sl_len hb;by_cases h0 : n = 0
 ·subst h0;have HF2 := tHid (HF.out 0 w (by omega) (by rw [List.length_eq_zero_iff.1 hbn]; rfl) (Fr.refl _ _));clear HF hb;go_enter Tryz.func135, Tryz.ntmps135
  go_wp2_with fail
  first | exact HF2.out | (go_ret; exact HF2.out)
 ·have z1 : ((n : Int) == 0) = false := by rw [beq_eq_false_iff_ne]; omega
  have z2 : ¬ (n : Int) = 0 := by omega
  have hN1 : Nw w (w.alloc (.cells AS 242)) := (Fr.refl _ _).alloc _;have hN2 : Nw w ((w.alloc (.cells AS 242)).alloc (.cells AS 242)) := ((Fr.refl _ _).alloc _).alloc _;have HN2 := tHid hN2;have hsz1 : (w.alloc (.cells AS 242)).heap.size = w.heap.size + 1 := by simp
  have HM := tHid (mkAscii_any w);have hnew : ((w.alloc (.cells AS 242)).alloc (.cells Tryz.zeroCells242 242)).heap[w.heap.size + 1]? = some (.cells Tryz.zeroCells242 242) := by
   rw [← hsz1]; exact newHeap _ _
  have hset : ((w.alloc (.cells AS 242)).alloc (.cells Tryz.zeroCells242 242)).setRow (w.heap.size + 1) AS = (w.alloc (.cells AS 242)).alloc (.cells AS 242) := by
   rw [← hsz1]; exact World.setRow_alloc_new _ _ _ _
  have hzs : Tryz.zeroCells242.size = AS.size := by rw [zc53, Lib.setCells_size, as_size]
  have hnew2 : ((w.alloc (.cells AS 242)).alloc (.cells AS 242)).heap[w.heap.size + 1]? = some (.cells AS 242) := by
   rw [← hsz1]; exact newHeap _ _
  have HT := tHid (trimrA_any _ a n c b (hb.nw hN2) (w.heap.size + 1) hnew2);have HZS := tHid hzs;have HW := tHid hnew;have HS := tHid hset;obtain ⟨cs, hcs⟩ : ∃ cs : ByteArray, cs = ⟨#[32, 0]⟩ := ⟨_, rfl⟩;rw [← hcs] at HM ⊢;have hsz : cs.size = 2 := by rw [hcs]; rfl
  have hem : cs.toList.isEmpty = false := by rw [hcs, ByteArray.toList_eq]; rfl
  clear hcs hb hnew hset hzs hnew2 hN1 hN2 h0 hbn
  skip
  go_enter Tryz.func135, Tryz.ntmps135
  go_wp2_with (first
   | (go_at_call 168; with_reducible refine HM.out.mono ?_; rintro e w1 ⟨rfl, rfl⟩)
   | (refine wpList_store_row rfl 242 _ _ rfl (w.heap.size + 1) AS (by first | rfl | simp [Act.eval]) (by first | rfl | simp [Act.eval]) 242 _ HW.out as_info HZS.out as_one ?_; rw [HS.out])
   | (go_at_call 169; with_reducible refine HT.out.mono ?_; rintro e w2 ⟨M, rfl, HM2, rfl⟩))
  have HF2 := tHid (HF.out M _ HM2.out.1 HM2.out.2 HN2.out);first | exact HF2.out | (go_ret; exact HF2.out)
theorem triml_any {X : Nat → Prop} (w : World) (a : Option Addr) (n c : Nat) (b : List By) (hb : Sl X (.slice a n c) b w) :
  Calls Tryz.prog 136 #[.slice a n c, .string ⟨#[32]⟩] w fun e w' => ∃ a' n' c', e = .returned (.slice a' n' c') ∧ Hid (Sl X (.slice a' n' c') (b.dropWhile isBl) w) ∧ w = w' := by
 refine asP fun P hP => ?_
 have HF : Hid (∀ a' n' c', Sl X (.slice a' n' c') (b.dropWhile isBl) w → P (.returned (.slice a' n' c')) w) := fun a' n' c' h => by rw [hP]; exact ⟨a', n', c', rfl, h, rfl⟩
 clear hP;obtain ⟨hbn, k1, k2⟩ := sl_len hb;by_cases h0 : n = 0
 ·subst h0;have HF2 := tHid (HF.out none 0 0 (by rw [List.length_eq_zero_iff.1 hbn]; exact .inl ⟨none, rfl, rfl⟩));clear HF hb;go_enter Tryz.func136, Tryz.ntmps136
  go_wp2_with fail
  first | exact HF2.out | (go_ret; exact HF2.out)
 ·have z1 : ((n : Int) == 0) = false := by rw [beq_eq_false_iff_ne]; omega
  have z2 : ¬ (n : Int) = 0 := by omega
  have HT := tHid (trimlb_any w a n c b hb);obtain ⟨cs, hcs⟩ : ∃ cs : ByteArray, cs = ⟨#[32]⟩ := ⟨_, rfl⟩;rw [← hcs];have hsz : cs.size = 1 := by rw [hcs]; rfl
  have hem : cs.toList.isEmpty = false := by rw [hcs, ByteArray.toList_eq]; rfl
  have e0 : ∀ h, (cs[0]'h).toNat = 32 := by subst hcs; intro h; rfl
  clear hcs hb h0 hbn;go_enter Tryz.func136, Tryz.ntmps136
  go_wp2_with (first
   | (go_at_call 171; with_reducible refine HT.out.mono ?_; rintro e w2 ⟨a', n', c', rfl, HM2, rfl⟩))
  have HF2 := tHid (HF.out _ _ _ HM2.out);first | exact HF2.out | (go_ret; exact HF2.out)
theorem noDigit_any (x : By) (w : World) : Calls Tryz.prog 138 #[.int .u8 x.toNat] w fun e w' => e = .returned (.bool (!isD x)) ∧ w = w' := by
 refine asP fun P hP => ?_
 have HF : Hid (P (.returned (.bool (!isD x))) w) := by rw [hP]; exact ⟨rfl, rfl⟩
 clear hP;have hd : isD x = decide (48 ≤ x.toNat ∧ x.toNat ≤ 55) := rfl;rw [hd] at HF;clear hd;generalize x.toNat = y at *;by_cases h1 : (y : Int) < 48
 ·rw [decide_eq_false (by omega)] at HF;have d1 : decide ((y : Int) < 48) = true := decide_eq_true h1;go_enter Tryz.func138, Tryz.ntmps138
  go_wp2
  exact HF.out
 ·have d1 : decide ((y : Int) < 48) = false := decide_eq_false h1;by_cases h2 : (55 : Int) < (y : Int)
  ·rw [decide_eq_false (by omega)] at HF;have d2 : decide ((55 : Int) < (y : Int)) = true := decide_eq_true h2;go_enter Tryz.func138, Tryz.ntmps138
   go_wp2
   exact HF.out
  ·rw [decide_eq_true (by omega)] at HF;have d2 : decide ((55 : Int) < (y : Int)) = false := decide_eq_false h2;go_enter Tryz.func138, Tryz.ntmps138
   go_wp2
   exact HF.out
theorem indexFB_any {X : Nat → Prop} (w : World) (a : Option Addr) (n c : Nat) (b : List By) (hb : Sl X (.slice a n c) b w) :
  Calls Tryz.prog 174 #[.slice a n c, .func (.func 138) #[] #[]] w fun e w' => ∃ z : Int, e = .returned (.int .i64 z) ∧ decide (0 ≤ z) = !(b.all isD) ∧ w = w' := by
 refine asP fun P hP => ?_
 have HF : Hid (∀ z, decide (0 ≤ z) = !(b.all isD) → P (.returned (.int .i64 z)) w) := fun z hz => by rw [hP]; exact ⟨z, rfl, hz, rfl⟩
 clear hP;obtain ⟨hbn, k1, k2⟩ := sl_len hb;have HR : Hid (∀ I, (hI : I < b.length) → ∃ g o, a = some ⟨g, o, none⟩ ∧ w.cell? ⟨g, o + I, none⟩ = some (.int .u8 b[I].toNat)) := fun I hI => by
  rcases hb with ⟨a', e, e2⟩ | ⟨g, _, o, c', e, e1, e2, hr⟩
  ·subst e2; simp at hI
  ·injection e with e _ ec;exact ⟨g, o, e, hr I hI⟩
 have HC := tHid (fun x : By => noDigit_any x w);have HBN := tHid hbn;clear hb hbn;have eg := enters_of Tryz.func138 (by kernel_rfl) rfl;go_enter Tryz.func174, Tryz.ntmps174
 go_wp2
 go_loopg [8] n (fun kx i wr => ∃ (I : Nat), I ≤ n ∧ n - I ≤ kx ∧ i = .int .i64 I ∧ wr = w ∧ Hid ((b.take I).all isD = true))
 case atStart => exact ⟨0, by omega, by omega, rfl, rfl, rfl⟩
 case round =>
  obtain ⟨I, hI, hkx, rfl, rfl, HI⟩ := hrel;by_cases hlt : I < n
  ·have hlt' : I < b.length := by have := HBN.out; omega
   obtain ⟨g1, o1, rfl, hcell1⟩ := HR.out I hlt';have HCx := tHid (HC.out b[I]);cases hd : isD b[I] with
   | true =>
    have HN : Hid ((b.take (I + 1)).all isD = true) := by
     show _ = _;rw [take_snoc b I hlt', List.all_append, HI.out, List.all_cons, hd]; rfl
    rw [hd] at HCx;clear HI HF HR HC HBN hd;generalize b[I].toNat = x at *
    go_wp2_with (first | (go_at_fn 138; with_reducible refine HCx.out.mono ?_; rintro e w1 ⟨rfl, rfl⟩) | (go_at_call 138; with_reducible refine HCx.out.mono ?_; rintro e w1 ⟨rfl, rfl⟩))
    go_roundg (n - (I + 1))
    case measure => omega
    case rel => exact ⟨I + 1, by omega, by omega, by first | rfl | (congr 1), rfl, HN⟩
   | false =>
    have HF2 := tHid (HF.out I (by
     rw [decide_eq_true (by omega)];have : b.all isD = false := by
      rw [List.all_eq_false];exact ⟨b[I], List.getElem_mem hlt', by rw [hd]; decide⟩
     rw [this]; rfl))
    rw [hd] at HCx;clear HI HF HR HC HBN hd;generalize b[I].toNat = x at *
    go_wp2_with (first | (go_at_fn 138; with_reducible refine HCx.out.mono ?_; rintro e w1 ⟨rfl, rfl⟩) | (go_at_call 138; with_reducible refine HCx.out.mono ?_; rintro e w1 ⟨rfl, rfl⟩))
    exact HF2.out
  ·have HF2 := tHid (HF.out (-1) (by
    have := HI.out;rw [List.take_of_length_le (by have := HBN.out; omega)] at this;rw [this]; decide))
   clear HI HF HR HC HBN
   go_wp2_with fail
   exact HF2.out
theorem containsFB_any {X : Nat → Prop} (w : World) (a : Option Addr) (n c : Nat) (b : List By) (hb : Sl X (.slice a n c) b w) :
  Calls Tryz.prog 137 #[.slice a n c, .func (.func 138) #[] #[]] w fun e w' => e = .returned (.bool (!(b.all isD))) ∧ w = w' := by
 refine asP fun P hP => ?_
 have HC := tHid (indexFB_any w a n c b hb);have HF : Hid (P (.returned (.bool (!(b.all isD)))) w) := by rw [hP]; exact ⟨rfl, rfl⟩
 clear hP hb;generalize (!(b.all isD)) = B at *;go_enter Tryz.func137, Tryz.ntmps137
 go_wp2_with (first | (go_at_call 174; with_reducible refine HC.out.mono ?_; rintro e w1 ⟨z, rfl, hz, rfl⟩))
 exact HF.out
theorem sl_take {X : Nat → Prop} {a : Option Addr} {n c : Nat} {l : List By} {w : World} (h : Sl X (.slice a n c) l w) (M : Nat) (hM : M ≤ n) : Sl X (.slice a M c) (l.take M) w := by
 rcases h with ⟨a', e, rfl⟩ | ⟨g, hg, o, c', e, e1, e2, e3⟩
 ·cases e;obtain rfl : M = 0 := by omega
  exact .inl ⟨a, rfl, rfl⟩
 ·injection e with ea en ec;subst ec;refine .inr ⟨g, hg, o, c, ?_, ?_, e2, e3.take M⟩
  ·rw [List.length_take, ea, Nat.min_eq_left (by omega)]
  ·rw [List.length_take]; omega
theorem mx_eq : mx = 9223372036854775807 := by unfold mx; rfl
theorem i64_or (k : Nat) (n d : Int) (hk : k ≤ 8) (hd : 0 ≤ d) (hd2 : d < 2 ^ k) (h1 : -9223372036854775808 ≤ n * 2 ^ k + d) (h2 : n * 2 ^ k + d ≤ 9223372036854775807) : bits .or .i64 (n * 2 ^ k) d = n * 2 ^ k + d := by
 obtain ⟨D, rfl⟩ := Int.eq_ofNat_of_zero_le hd;have hp : (2 : Int) ^ k = ((2 ^ k : Nat) : Int) := by norm_cast
 have hp2 : 2 ^ k ≤ 2 ^ 8 := Nat.pow_le_pow_right (by decide) hk;have hpos : 0 < 2 ^ k := Nat.pow_pos (by decide);have hdiv : 2 ^ 64 = 2 ^ k * 2 ^ (64 - k) := by rw [← Nat.pow_add]; congr 1; omega
 show IntKind.i64.wrap ((BitVec.ofInt 64 (n * 2 ^ k) ||| BitVec.ofInt 64 (D : Int)).toNat : Nat) = _;rw [BitVec.toNat_or, BitVec.toNat_ofInt, BitVec.toNat_ofInt];have eD : ((D : Int) % ((2 ^ 64 : Nat) : Int)).toNat = D := by
  rw [hp] at hd2;omega
 rw [eD];have eN : ((n * 2 ^ k) % ((2 ^ 64 : Nat) : Int)).toNat = 2 ^ k * ((n % ((2 ^ (64 - k) : Nat) : Int)).toNat) := by
  rw [hdiv, hp]
  push_cast
  rw [Int.mul_comm n, Int.mul_emod_mul_of_pos _ _ (by rw [hp]; omega)];have : 0 ≤ n % (2 : Int) ^ (64 - k) := Int.emod_nonneg _ (by have : (0 : Int) < 2 ^ (64 - k) := Int.pow_pos (by decide); omega);obtain ⟨z, hz⟩ := Int.eq_ofNat_of_zero_le this;rw [hz, hp]
  norm_cast
 rw [eN, nat_join k _ _ (Nat.mul_mod_right _ _) (by rw [hp] at hd2; omega), ← eN, IntKind.wrap_i64];clear eN eD hdiv hd2 hp2 hpos hp hd;generalize n * 2 ^ k = m at *;have e : (((m % ((2 ^ 64 : Nat) : Int)).toNat + D : Nat) : Int) = m % 18446744073709551616 + (D : Int) := by omega
 rw [e];omega
theorem oct_or (N d : Nat) (hN : N ≤ 1152921504606846975) (hd : d < 8) : bits .or .i64 ((N : Int) * 8) (d : Int) = ((8 * N + d : Nat) : Int) := by
 have := i64_or 3 (N : Int) (d : Int) (by omega) (by omega) (by omega) (by omega) (by omega);rw [show (2 : Int) ^ 3 = 8 from rfl] at this;rw [this]; omega
def octV (b : List By) : Value := .tuple #[.int .i64 (octN b : Nat), .int .i64 (octE b : Nat)]
theorem octV_of (b : List By) (n e : Nat) (h1 : octN b = n) (h2 : octE b = e) : octV b = .tuple #[.int .i64 (n : Nat), .int .i64 (e : Nat)] := by unfold octV; rw [h1, h2]
theorem octal_any {X : Nat → Prop} (w : World) (a : Option Addr) (n c : Nat) (b : List By) (hb : Sl X (.slice a n c) b w) :
  Calls Tryz.prog 109 #[.slice a n c] w fun e w' => e = .returned (octV b) ∧ Nw w w' := by
 refine asP fun P hP => ?_
 have HF : Hid (∀ W, Nw w W → P (.returned (octV b)) W) := fun W hW => by rw [hP]; exact ⟨rfl, hW⟩
 clear hP;have HL := tHid (triml_any w a n c b hb);have HR : Hid (∀ a' n' c', Sl X (.slice a' n' c') (b.dropWhile isBl) w → Calls Tryz.prog 135 #[.slice a' n' c', .string ⟨#[32, 0]⟩] w fun e w' => ∃ M : Nat, e = .returned (.slice a' M c') ∧ Hid (Nw w w' ∧ Sl X (.slice a' M c') (trR (b.dropWhile isBl)) w' ∧ M ≤ c' ∧ c' < 9223372036854775808)) := fun a' n' c' h => by
  refine (trimr2_any w a' n' c' _ h).mono ?_;rintro e w' ⟨M, rfl, H1, H2⟩;have q := sl_take (h.nw H2.out) M H1.out.1;rw [H1.out.2] at q;exact ⟨M, rfl, H2.out, q, (sl_len q).2⟩
 obtain ⟨_, k1, k2⟩ := sl_len hb;clear hb;go_enter Tryz.func109, Tryz.ntmps109;go_upto_region 2 with (first
  | (go_at_call 136; with_reducible refine HL.out.mono ?_; rintro e w1 ⟨a', n', c', rfl, H1, rfl⟩)
  | (go_at_call 135; with_reducible refine (HR.out _ _ _ H1.out).mono ?_; rintro e w2 ⟨M, rfl, H2⟩))
 obtain ⟨hN, hS, hc1, hc2⟩ := H2.out;have HC := tHid (containsFB_any w2 a' M c' _ hS);clear HL HR H1;cases hr : (rst b).all isBz with
 | false =>
  have hn := trR_not b hr;rw [hn] at HC;have hv := octV_of b 0 120 (by unfold octN; rw [hr]; rfl) (by unfold octE; rw [hr]; rfl);have HF2 := tHid (HF.out w2 hN);rw [hv] at HF2;clear HF hN hS hr hn hv H2
  go_wp2_with (first | (go_at_call 137; with_reducible refine HC.out.mono ?_; rintro e w3 ⟨rfl, rfl⟩))
  exact HF2.out
 | true =>
  have hn := trR_is b hr;rw [hn] at HC hS;rw [dgs_all b] at HC;have hbn := (sl_len hS).1;have HR : Hid (∀ I, (hI : I < (dgs b).length) → ∃ g o, a' = some ⟨g, o, none⟩ ∧ w2.cell? ⟨g, o + I, none⟩ = some (.int .u8 (dgs b)[I].toNat)) := fun I hI => by
   rcases hS with ⟨_, e, e2⟩ | ⟨g, _, o, _, e, e1, e2, hr⟩
   ·rw [e2] at hI; simp at hI
   ·injection e with e _ ec;exact ⟨g, o, e, hr I hI⟩
  have HD := tHid (And.intro (dgs_all b) (And.intro hbn (And.intro hr hN)));clear hS hr hn H2 hbn hN
  go_wp2_with (first | (go_at_call 137; with_reducible refine HC.out.mono ?_; rintro e w3 ⟨rfl, rfl⟩))
  go_loopg [5, 15] M (fun kx v i wr => ∃ (I N : Nat), I ≤ M ∧ M - I ≤ kx ∧ i = .int .i64 I ∧ v = .int .i64 N ∧ N ≤ 9223372036854775807 ∧ wr = w2 ∧ Hid (N = v8 0 ((dgs b).take I)))
  case atStart => exact ⟨0, 0, by omega, by omega, rfl, rfl, by omega, rfl, rfl⟩
  case round =>
   obtain ⟨I, N, hI, hkx, rfl, rfl, hN9, rfl, HV⟩ := hrel;obtain ⟨hall, hbn, hr, hN⟩ := HD.out;by_cases hlt : I < M
   ·have hlt' : I < (dgs b).length := by omega
    obtain ⟨g, o, rfl, hcell⟩ := HR.out I hlt';have hdig := List.all_eq_true.1 hall _ (List.getElem_mem hlt');have hd2 := of_decide_eq_true hdig;have hsn : v8 0 ((dgs b).take (I + 1)) = 8 * N + ((dgs b)[I].toNat - 48) := by
     rw [take_snoc _ _ hlt', v8_app, ← HV.out, v8_cons, v8_nil]
    by_cases hbig : (1152921504606846975 : Int) < (N : Int)
    ·have hno : ¬ v8 0 (dgs b) ≤ mx := by
      have h9 := v8_ge (v8 0 ((dgs b).take (I + 1))) ((dgs b).drop (I + 1));rw [← v8_app, List.take_append_drop, hsn] at h9;rw [mx_eq]; omega
     have hv := octV_of b 0 121 (by unfold octN; rw [hr, if_pos rfl, if_neg hno]) (by unfold octE; rw [hr, if_pos rfl, if_neg hno]);have HF2 := tHid (HF.out wr hN);rw [hv] at HF2;clear HF HR HD HV hall hbn hr hN hdig hd2 hsn hno hv HC;generalize (dgs b)[I].toNat = x at *
     go_wp2_with fail
     exact HF2.out
    ·obtain ⟨d, hd⟩ : ∃ d, (dgs b)[I].toNat = 48 + d := ⟨(dgs b)[I].toNat - 48, by omega⟩;rw [hd] at hcell hsn hd2;have hor := oct_or N d (by omega) (by omega);have HV2 : Hid (8 * N + d = v8 0 ((dgs b).take (I + 1))) := by show _ = _; rw [hsn]; omega
     obtain ⟨N2, hN2⟩ : ∃ N2, 8 * N + d = N2 := ⟨_, rfl⟩;rw [hN2] at hor HV2;have hN29 : N2 ≤ 9223372036854775807 := by omega
     have hd8 : (d : Int) < 8 := by omega
     obtain ⟨y, hy⟩ : ∃ y, y = 48 + d := ⟨_, rfl⟩;rw [← hy] at hcell;have hyd : (y : Int) - 48 = (d : Int) := by omega
     have hy1 : (48 : Int) ≤ (y : Int) := by omega
     have hy2 : (y : Int) ≤ 55 := by omega
     clear HF HR HD HV hall hbn hr hN hdig hsn HC hd hd2 hN2 hy
     go_wp2_with fail
     go_roundg (M - (I + 1))
     case measure => omega
     case rel => exact ⟨I + 1, N2, by omega, by omega, by first | rfl | (congr 1), by first | rfl | (rw [hor]), hN29, rfl, HV2⟩
   ·have hN0 : N = v8 0 (dgs b) := by
     have := HV.out;rw [List.take_of_length_le (by omega)] at this;exact this
    have hyes : v8 0 (dgs b) ≤ mx := by rw [mx_eq, ← hN0]; exact hN9
    have hv := octV_of b N 0 (by unfold octN; rw [hr, if_pos rfl, if_pos hyes, hN0]) (by unfold octE; rw [hr, if_pos rfl, if_pos hyes]);have HF2 := tHid (HF.out wr hN);rw [hv] at HF2;clear HF HR HD HV hall hbn hr hN HC hv hN0 hyes
    go_wp2_with fail
    exact HF2.out
end Go.Proofs.YtlenihpbhlfcoaaGreatDoor

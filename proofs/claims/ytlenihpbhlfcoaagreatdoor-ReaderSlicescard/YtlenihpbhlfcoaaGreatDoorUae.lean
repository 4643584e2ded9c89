import Derived.Lib.SlBytesConst
import Derived.Test.YtlenihpbhlfcoaaGreatDoorUad
set_option maxHeartbeats 8000000
set_option maxRecDepth 100000
set_option linter.unusedSimpArgs false
set_option linter.unusedVariables false
namespace Go.Proofs.YtlenihpbhlfcoaaGreatDoor
open Go.RowKit
theorem bcut_any {X : Nat → Prop} (w : World) (a : Option Addr) (n c : Nat) (l : List By) (hl : Sl X (.slice a n c) l w) (sg sc : Nat) (hs : w.cell? ⟨sg, 0, none⟩ = some (.int .u8 0)) :
  Calls Tryz.prog 101 #[.slice a n c, .slice (some ⟨sg, 0, none⟩) 1 sc] w fun e w' => ∃ a' n' c' v2 v3, e = .returned (.tuple #[.slice a' n' c', v2, v3]) ∧ Hid (Sl X (.slice a' n' c') (txt l) w' ∧ Nw w w') := by
 refine asP fun P hP => ?_
 have HF : Hid (∀ a' n' c' v2 v3 W, Sl X (.slice a' n' c') (txt l) w → Nw w W → P (.returned (.tuple #[.slice a' n' c', v2, v3])) W) := fun a' n' c' v2 v3 W h1 h2 => by rw [hP]; exact ⟨a', n', c', v2, v3, rfl, h1.nw h2, h2⟩
 have HI := tHid (bindex_any w a n c l hl sg sc hs);clear hP;obtain ⟨hn, k1, k2⟩ := sl_len hl;rcases ixz_txt l with ⟨e1, e2⟩ | ⟨k, e1, e2, e3⟩
 ·rw [e1] at HI;rw [e2] at HF;have HF2 := tHid (HF.out a n c (.slice none 0 0) (.bool false) w hl (Fr.refl _ _));clear hl HF e1 e2;go_enter Tryz.func101, Tryz.ntmps101
  go_wp2_with (first | (go_at_call 125; with_reducible refine HI.out.mono ?_; rintro e w1 ⟨rfl, rfl⟩))
  go_ret3
  exact HF2.out
 ·rw [e1] at HI;have hS := sl_take hl k (by omega);rw [← e3] at hS;have HF2 := tHid (fun v2 v3 W => HF.out a k c v2 v3 W hS);have z1 : (k : Int) ≤ (n : Int) := by omega
  have z2 : (k : Int) ≤ (c : Int) := by omega
  have z3 : (k : Int) + 1 ≤ (n : Int) := by omega
  have z4 : (n : Int) ≤ (c : Int) := by omega
  have z5 : (0 : Int) ≤ (k : Int) := by omega
  obtain ⟨A, hA⟩ : ∃ A, a = some A := by
   cases a with
   | none =>
    rcases hl with ⟨_, e, rfl⟩ | ⟨g, _, o, c', e, _⟩
    ·simp at e2
    ·cases e
   | some A => exact ⟨A, rfl⟩
  have hkn : k + 1 ≤ n := by omega
  clear hl HF e1 e2 e3 hS hn;subst hA;by_cases hc : c ≤ k + 1
  ·obtain rfl : c = k + 1 := by omega
   go_enter Tryz.func101, Tryz.ntmps101
   go_upto_region 3 with (first | (go_at_call 125; with_reducible refine HI.out.mono ?_; rintro e w1 ⟨rfl, rfl⟩))
   go_region
   go_wp2_with fail
   go_ret3
   exact HF2.out _ _ _ ((Fr.refl _ _).drew)
  ·have hc2 : k + 1 < c := by omega
   have hc3 : ¬ c = k + 1 := by omega
   go_enter Tryz.func101, Tryz.ntmps101
   go_upto_region 3 with (first | (go_at_call 125; with_reducible refine HI.out.mono ?_; rintro e w1 ⟨rfl, rfl⟩))
   go_region
   go_wp2_with fail
   go_ret3
   exact HF2.out _ _ _ ((Fr.refl _ _).drew)
theorem lit0 (w : World) : (w.alloc (.cells #[.int .u8 0] 5 (1, 2))).cell? ⟨w.heap.size, 0, none⟩ = some (.int .u8 0) := by
 have : (w.alloc (.cells #[.int .u8 0] 5 (1, 2))).heap[w.heap.size]? = some (.cells #[.int .u8 0] 5 (1, 2)) := newHeap _ _;unfold World.cell?;rw [this];rfl
theorem text_any {X : Nat → Prop} (w : World) (a : Option Addr) (n c : Nat) (l : List By) (hl : Sl X (.slice a n c) l w) :
  Calls Tryz.prog 62 #[.slice a n c] w fun e w' => e = .returned (.string (str (txt l))) ∧ Nw w w' := by
 refine asP fun P hP => ?_
 have HF : Hid (∀ W, Nw w W → P (.returned (.string (str (txt l)))) W) := fun W hW => by rw [hP]; exact ⟨rfl, hW⟩
 clear hP;obtain ⟨hn, k1, k2⟩ := sl_len hl;have hN1 : Nw w (w.alloc (.cells #[.int .u8 0] 5 (1, 2))) := (Fr.refl _ _).alloc _;have hcv0 : (convert 22 22 (.slice (some ⟨w.heap.size, 0, none⟩) 1 1)).run Tryz.prog (w.alloc (.cells #[.int .u8 0] 5)) = .ok (.slice (some ⟨w.heap.size, 0, none⟩) 1 1) (w.alloc (.cells #[.int .u8 0] 5 (1, 2))) := Lib.run_convert_bytes_const w 22 5 _ 1 1 Tryz.underlying22 Tryz.underlying5
 have HC : Hid (Calls Tryz.prog 101 #[.slice a n c, .slice (some ⟨w.heap.size, 0, none⟩) 1 1] (w.alloc (.cells #[.int .u8 0] 5 (1, 2))) fun e w' => ∃ a' n' c' v2 v3, e = .returned (.tuple #[.slice a' n' c', v2, v3]) ∧ (convert 22 9 (.slice a' n' c')).run Tryz.prog w' = .ok (.string (str (txt l))) w' ∧ Hid (Nw w w')) := by
  refine (bcut_any _ a n c l (hl.nw hN1) w.heap.size 1 (lit0 w)).mono ?_;rintro e w' ⟨a', n', c', v2, v3, rfl, H⟩;exact ⟨a', n', c', v2, v3, rfl, conv_any H.out.1, hN1.trans H.out.2⟩
 clear hl hN1;generalize str (txt l) = T at *;go_enter Tryz.func62, Tryz.ntmps62
 go_wp2_with (first | (go_at_call 101; with_reducible refine HC.out.mono ?_; rintro e w1 ⟨a', n', c', v2, v3, rfl, hcv, H1⟩))
 first | exact HF.out _ H1.out | (go_ret; exact HF.out _ H1.out)
theorem mul64_any (y : Nat) (hy : y ≤ 65535) (w : World) : Calls Tryz.prog 131 #[.int .u64 1, .int .u64 y] w fun e w' => e = .returned (.tuple #[.int .u64 0, .int .u64 y]) ∧ w' = w := by
 have h1 : bits .and .u64 (y : Int) 4294967295 = (y : Int) := by
  have := u64_and_nat y 4294967295 (by omega) (by decide);rw [show ((4294967295 : Nat) : Int) = 4294967295 from rfl] at this;rw [this];congr 1;have e := Nat.and_two_pow_sub_one_eq_mod y 32;rw [show 2 ^ 32 - 1 = 4294967295 by decide] at e;rw [e]; omega
 have h2 : bits .and .u64 1 4294967295 = 1 := by decide
 have h3 : bits .and .u64 0 4294967295 = 0 := by decide
 have h4 : (y : Int) / 4294967296 = 0 := by omega
 refine asP fun P hP => ?_
 have HF : Hid (P (.returned (.tuple #[.int .u64 0, .int .u64 y])) w) := by
  show P _ _;rw [hP]; exact ⟨rfl, rfl⟩
 clear hP;go_enter Tryz.func131, Tryz.ntmps131
 go_wp2
 exact HF.out
theorem mul_any (y : Nat) (hy : y ≤ 65535) (w : World) : Calls Tryz.prog 103 #[.int .u64 1, .int .u64 y] w fun e w' => e = .returned (.tuple #[.int .u64 0, .int .u64 y]) ∧ w' = w := by
 refine asP fun P hP => ?_
 have HF : Hid (P (.returned (.tuple #[.int .u64 0, .int .u64 y])) w) := by
  show P _ _;rw [hP]; exact ⟨rfl, rfl⟩
 have HC : Hid (Calls Tryz.prog 131 #[.int .u64 1, .int .u64 y] w fun e w' => e = .returned (.tuple #[.int .u64 0, .int .u64 y]) ∧ w' = w) := mul64_any y hy w;clear hP;go_enter Tryz.func103, Tryz.ntmps103
 go_wp2_with (first | (go_at_call 131; (with_reducible refine HC.out.mono ?_); rintro e w1 ⟨rfl, rfl⟩))
 exact HF.out
theorem slhp32 (s : ByteArray) (w : World) (h1 : s.size = 128) (h2 : s.extract 0 1 = ⟨#[32]⟩) : Calls Tryz.prog 132 #[.string s, .string ⟨#[32]⟩] w fun e w' => e = .returned (.bool true) ∧ w = w' := by
 refine asP fun P hP => ?_
 have HF : Hid (P (.returned (.bool true)) w) := by rw [hP]; exact ⟨rfl, rfl⟩
 obtain ⟨sp, hsp⟩ : ∃ sp : ByteArray, sp = ⟨#[32]⟩ := ⟨_, rfl⟩;rw [← hsp] at h2 ⊢;have hz : sp.size = 1 := by rw [hsp]; rfl
 have hb : (sp.toList == sp.toList) = true := by simp
 have z1 : (1 : Int) ≤ (s.size : Int) := by omega
 have z2 : 1 ≤ s.size := by omega
 clear hP hsp;go_enter Tryz.func132, Tryz.ntmps132
 go_wp2_with fail
 exact HF.out
theorem hp32 (s : ByteArray) (w : World) (h1 : s.size = 128) (h2 : s.extract 0 1 = ⟨#[32]⟩) : Calls Tryz.prog 104 #[.string s, .string ⟨#[32]⟩] w fun e w' => e = .returned (.bool true) ∧ w = w' := by
 refine asP fun P hP => ?_
 have HF : Hid (P (.returned (.bool true)) w) := by rw [hP]; exact ⟨rfl, rfl⟩
 have HJ := tHid (slhp32 s w h1 h2);clear hP h1 h2;go_enter Tryz.func104, Tryz.ntmps104
 go_wp2_with (first | (go_at_call 132; with_reducible refine HJ.out.mono ?_; rintro e w1 ⟨rfl, rfl⟩))
 exact HF.out
def bl8 : ByteArray := ⟨#[32, 32, 32, 32, 32, 32, 32, 32]⟩
theorem repeat8 (w : World) : Calls Tryz.prog 80 #[.string ⟨#[32]⟩, .int .i64 8] w fun e w' => e = .returned (.string bl8) ∧ w = w' := by
 refine asP fun P hP => ?_
 have HF : Hid (∀ X, X = bl8 → P (.returned (.string X)) w) := fun X hX => by rw [hP, hX]; exact ⟨rfl, rfl⟩
 have HM : Hid (Calls Tryz.prog 103 #[.int .u64 1, .int .u64 8] w fun e w' => e = .returned (.tuple #[.int .u64 0, .int .u64 8]) ∧ w' = w) := mul_any 8 (by decide) w;obtain ⟨sp, hsp⟩ : ∃ sp : ByteArray, sp = ⟨#[32]⟩ := ⟨_, rfl⟩;have HH : Hid (∀ (s : ByteArray), s.size = 128 → s.extract 0 1 = ⟨#[32]⟩ → Calls Tryz.prog 104 #[.string s, .string sp] w fun e w' => e = .returned (.bool true) ∧ w = w') := by
  rw [hsp]; exact fun s h1 h2 => hp32 s w h1 h2
 rw [← hsp];have hz : sp.size = 1 := by rw [hsp]; rfl
 have e0 : ∀ h, (sp[0]'h).toNat = 32 := by subst hsp; intro h; rfl
 clear hP hsp;go_enter Tryz.func80, Tryz.ntmps80
 go_wp2_with (first
  | (go_at_call 103; with_reducible refine HM.out.mono ?_; rintro e w1 ⟨rfl, hw⟩; replace hw := hw.symm; subst hw)
  | (go_at_call 104; with_reducible refine (HH.out _ (by with_unfolding_all rfl) (by with_unfolding_all rfl)).mono ?_; rintro e w1 ⟨rfl, rfl⟩))
 exact HF.out _ (by rfl)
def rc (b : List By) : Array Value := (b.map bv).toArray
theorem rc_size (b : List By) : (rc b).size = b.length := by unfold rc; simp
theorem rc_one (b : List By) : (rc b).all (·.oneCell') = true := by
 rw [Array.all_eq_true_iff_forall_mem];intro v hv;unfold rc at hv;rw [List.mem_toArray] at hv;exact bv_one b v hv
theorem rc_info (b : List By) (h : b.length = 512) : (Tryz.prog.info? 58).map (·.size) = some (rc b).size := by rw [rc_size, h]; kernel_rfl
theorem rc_at (b : List By) (I : Nat) (h : I < b.length) : (rc b)[I]? = some (.int .u8 b[I].toNat) := by
 unfold rc;simp [h]
def su (l : List By) : Int := l.foldl (fun n x => n + (x.toNat : Int)) 0
def sx (x : By) : Int := if x.toNat < 128 then (x.toNat : Int) else (x.toNat : Int) - 256
def ss (l : List By) : Int := l.foldl (fun n x => n + sx x) 0
theorem su_snoc (l : List By) (x : By) : su (l ++ [x]) = su l + (x.toNat : Int) := by unfold su; rw [List.foldl_append]; rfl
theorem ss_snoc (l : List By) (x : By) : ss (l ++ [x]) = ss l + sx x := by unfold ss; rw [List.foldl_append]; rfl
theorem su_take (l : List By) (I : Nat) (h : I < l.length) : su (l.take (I + 1)) = su (l.take I) + (l[I].toNat : Int) := by rw [take_snoc l I h, su_snoc]
theorem ss_take (l : List By) (I : Nat) (h : I < l.length) : ss (l.take (I + 1)) = ss (l.take I) + sx l[I] := by rw [take_snoc l I h, ss_snoc]
def blk (b : List By) : List By := b.take 148 ++ (List.replicate 8 32#8 ++ b.drop 156)
theorem blk_length (b : List By) (h : b.length = 512) : (blk b).length = 512 := by
 unfold blk;rw [List.length_append, List.length_append, List.length_take, List.length_replicate, List.length_drop, h];decide
theorem rec_heap (w : World) (b : List By) : (w.alloc (.cells (rc b) 58)).heap[w.heap.size]? = some (.cells (rc b) 58) := newHeap _ _
theorem copy_rec (w : World) (g o n c : Nat) (b : List By) (s : ByteArray) (hg : w.heap[g]? = some (.cells (rc b) 58)) (hs : s.size ≤ n) (ho : o + s.size ≤ b.length) :
  (∀ ty, (cpyT #[22, 9] ty #[.slice (some ⟨g, o, none⟩) n c, .string s]).run Tryz.prog w = .ok (.int .i64 (s.size : Int)) (w.setRow g (rc (b.take o ++ (bys' s ++ b.drop (o + s.size)))))) := by
 intro ty;obtain ⟨i, hi, hz, hsz, hby⟩ := infoB;have hrun := Lib.run_copy_row_string (P := Tryz.prog) w 22 9 ty 5 g o n c s (rc b) 58 Tryz.underlying22 (by rw [hi]; simp [hsz]) hg hs (by rw [rc_size]; exact ho);have ec : ((rc b).toList.take o ++ Lib.byteCells s.data.toList ++ (rc b).toList.drop (o + s.size)).toArray = rc (b.take o ++ (bys' s ++ b.drop (o + s.size))) := by
  unfold rc;congr 1;rw [List.map_append, List.map_append, List.map_take, List.map_drop, List.append_assoc];congr 2;unfold Lib.byteCells bys';rw [List.map_map];apply List.map_congr_left;intro u _;have h := u.toNat_lt;simp only [Function.comp, bv, BitVec.toNat_ofNat];rw [Nat.mod_eq_of_lt (by omega)]
 rw [ec] at hrun;exact hrun
theorem run_index_rec (w : World) (D : Array Value) (I : Nat) (v : Value) (hI : I < 512) (h : D[I]? = some v) : (Instr.index 58 (.agg D) (.int .i64 (I : Int))).run Tryz.prog w = .ok v w := by
 obtain ⟨i, hi, hz, hsz, hby⟩ := infoB;have h0 : (0 : Int) ≤ (I : Int) ∧ (I : Int) < ((512 : Nat) : Int) := by omega
 simp [Instr.index, run_underlying Tryz.underlying58, sizeOf, typeInfo, hi, hsz, part, asIntOf];rw [if_pos (by omega), h];rfl
theorem bl8_bys : bys' bl8 = List.replicate 8 32#8 := by decide
section
attribute [local go_sem ↓] cpyT_fold
theorem sums_any (b : List By) (hb : b.length = 512) (w : World) :
  Calls Tryz.prog 50 #[.agg (rc b)] w fun e w' => e = .returned (.tuple #[.int .i64 (su (blk b)), .int .i64 (ss (blk b))]) ∧ Nw w w' := by
 refine asP fun P hP => ?_
 have HF : Hid (∀ W, Nw w W → P (.returned (.tuple #[.int .i64 (su (blk b)), .int .i64 (ss (blk b))])) W) := fun W hW => by rw [hP]; exact ⟨rfl, hW⟩
 clear hP;obtain ⟨W1, hW1⟩ : ∃ W1, w.alloc (.cells (rc b) 58) = W1 := ⟨_, rfl⟩;have h1 : W1.drew.heap[w.heap.size]? = some (.cells (rc b) 58) := by rw [← hW1]; exact rec_heap w b
 have hcp := copy_rec W1.drew w.heap.size 148 8 364 b bl8 h1 (by decide) (by rw [hb]; decide);have e8 : bl8.size = 8 := rfl;rw [bl8_bys, e8] at hcp;obtain ⟨W2, hW2⟩ : ∃ W2, W1.drew.setRow w.heap.size (rc (blk b)) = W2 := ⟨_, rfl⟩;have hcp2 : ∀ ty, (cpyT #[22, 9] ty #[.slice (some ⟨w.heap.size, 148, none⟩) 8 364, .string bl8]).run Tryz.prog W1.drew = .ok (.int .i64 8) W2 := by rw [← hW2]; exact hcp
 have h2 : W2.heap[w.heap.size]? = some (.cells (rc (blk b)) 58) := by rw [← hW2]; exact setRow_heap _ _ _ _ 58 _ h1
 have n2 : Nw w W2 := by
  rw [← hW2, ← hW1];exact (((Fr.refl _ _).alloc _).drew).setRow _ _ (.inr (Nat.le_refl _))
 have HR := tHid (fun V => repeat8 V);have H2 := tHid h2;have HN := tHid n2;have HLN := tHid (blk_length b hb);have HI := tHid (rc_info (blk b) (blk_length b hb));have HLC := tHid (rc_at (blk b));clear h1 hcp h2 n2 hW2 hb e8;generalize blk b = q at *;generalize hC : rc b = C at *;go_enter Tryz.func50, Tryz.ntmps50;go_upto_region 1 with fail
 go_region_with (first | (go_at_call 80; with_reducible refine (HR.out _).mono ?_; rintro e w1 ⟨rfl, rfl⟩))
 go_upto_region 4 with (first
  | (refine wpList_load_row rfl 58 _ rfl w.heap.size (by first | rfl | simp [Act.eval]) 58 _ (0, 0) _ H2.out Tryz.underlying58 rfl HI.out ?_))
 obtain ⟨D, hD⟩ : ∃ D, rc q = D := ⟨_, rfl⟩;rw [hD] at HLC ⊢;clear hD HI H2 HR hcp2 hC hW1;go_loopg [4, 5, 12] 512 (fun kx v4 v5 v12 wr => ∃ (I : Nat) (A B : Int), I ≤ 512 ∧ 512 ≤ I + kx ∧ v12 = .int .i64 I ∧ v4 = .int .i64 A ∧ v5 = .int .i64 B ∧ 0 ≤ A ∧ A ≤ 255 * I ∧ -128 * I ≤ B ∧ B ≤ 127 * I ∧ wr = W2 ∧ Hid (A = su (q.take I) ∧ B = ss (q.take I)))
 case atStart => exact ⟨0, 0, 0, by omega, by omega, rfl, rfl, rfl, by omega, by omega, by omega, by omega, rfl, rfl, rfl⟩
 case round =>
  obtain ⟨I, A, B, hI, hkx, rfl, rfl, rfl, a1, a2, b1, b2, rfl, HS⟩ := hrel;obtain ⟨eA, eB⟩ := HS.out;have hq := HLN.out;by_cases hlt : I < 512
  ·have hlt' : I < q.length := by omega
   have hat := run_index_rec wr D I _ hlt (HLC.out I hlt');have s1 := su_take q I hlt';have s2 := ss_take q I hlt';rw [← eA] at s1;rw [← eB] at s2;have hx := q[I].isLt;have hsx : sx q[I] = if q[I].toNat < 128 then (q[I].toNat : Int) else (q[I].toNat : Int) - 256 := rfl
   obtain ⟨A2, hA2⟩ : ∃ A2, A + (q[I].toNat : Int) = A2 := ⟨_, rfl⟩;obtain ⟨B2, hB2⟩ : ∃ B2, B + sx q[I] = B2 := ⟨_, rfl⟩;rw [hA2] at s1;rw [hB2] at s2;have HS2 : Hid (A2 = su (q.take (I + 1)) ∧ B2 = ss (q.take (I + 1))) := ⟨s1.symm, s2.symm⟩;generalize sx q[I] = y at *;have hy : -128 ≤ y ∧ y ≤ 127 := by split at hsx <;> omega
   generalize hxx : q[I].toNat = x at *;have hw8 : IntKind.i8.wrap (x : Int) = y := by
    rw [hsx]; unfold IntKind.wrap; simp [IntKind.bits, IntKind.signed]; split <;> omega
   have c1 : 0 ≤ A2 := by omega
   have c2 : A2 ≤ 255 * ((I + 1 : Nat) : Int) := by omega
   have c3 : -128 * ((I + 1 : Nat) : Int) ≤ B2 := by omega
   have c4 : B2 ≤ 127 * ((I + 1 : Nat) : Int) := by omega
   clear HF HN HLN HLC HS eA eB hq s1 s2 hsx hxx;obtain ⟨hy1, hy2⟩ := hy
   go_wp2_with fail
   go_roundg (512 - (I + 1))
   case measure => omega
   case rel => exact ⟨I + 1, A2, B2, by omega, by omega, by first | rfl | (congr 1), rfl, rfl, c1, c2, c3, c4, rfl, HS2⟩
  ·obtain rfl : I = 512 := by omega
   rw [List.take_of_length_le (by omega)] at eA eB;have HF2 := tHid (HF.out wr HN.out);rw [← eA, ← eB] at HF2;clear HF HN HLN HLC HS eA eB hq
   go_wp2_with fail
   exact HF2.out
end
end Go.Proofs.YtlenihpbhlfcoaaGreatDoor
namespace Go.Proofs.YtlenihpbhlfcoaaGreatDoor
open Go.RowKit
def zrec : List By := List.replicate 512 0#8
theorem zrec_length : zrec.length = 512 := List.length_replicate
theorem zrec_rc : Tryz.zeroCells58 = rc zrec := by kernel_rfl
theorem head_app (l m : List By) (h : l ≠ []) : (l ++ m).headD 0 = l.headD 0 := by
 cases l with
 | nil => exact absurd rfl h
 | cons x l => rfl
theorem isD_128 (x : By) (h : isD x = true) : x.toNat < 128 := by
 have := of_decide_eq_true h;omega
theorem ol_ne (N k : Nat) (h : 0 < k) : ol N k ≠ [] := by
 intro e;have := ol_length N k;rw [e] at this; simp at this; omega
theorem po_ok (n d : Int) (h : poE n d = 0) : 2 ≤ d ∧ d ≤ 512 ∧ 0 ≤ n ∧ n.toNat / 8 ^ (d.toNat - 1) = 0 := by
 unfold poE at h;split at h
 ·split at h
  ·cases h
  ·split at h
   ·exact ⟨by omega, by omega, by omega, by assumption⟩
   ·cases h
 ·cases h
theorem pb_ok (n d : Int) (h : pbE n d = 0) : 2 ≤ d ∧ d ≤ 512 ∧ fits n (d.toNat - 1) = true := by
 unfold pbE at h;split at h
 ·split at h
  ·exact ⟨by omega, by omega, by assumption⟩
  ·cases h
 ·cases h
theorem poL_length (n d : Int) (h : 2 ≤ d) : ((poL n d).length : Int) = d := by
 unfold poL;rw [List.length_append, ol_length, List.length_singleton]; omega
theorem pbL_length (n d : Int) (h : 2 ≤ d) : ((pbL n d).length : Int) = d := by
 unfold pbL;rw [bfd_length]; omega
theorem poL_head (n d : Int) (h : 2 ≤ d) : ((poL n d).headD 0).toNat < 128 := by
 unfold poL;rw [head_app _ _ (ol_ne _ _ (by omega))];obtain ⟨j, hj⟩ : ∃ j, d.toNat - 1 = j + 1 := ⟨d.toNat - 2, by omega⟩;rw [hj, ol];exact isD_128 _ (dg_isD _)
theorem poL_oct (n d : Int) (h2 : n ≤ 9223372036854775807) (h : poE n d = 0) : octV (poL n d) = .tuple #[.int .i64 n, .int .i64 0] := by
 obtain ⟨a, b, c, e⟩ := po_ok n d h;obtain ⟨q1, q2⟩ := oct_ol n.toNat (d.toNat - 1) e (by rw [mx_eq]; omega) (by omega);have := octV_of (poL n d) n.toNat 0 q1 q2;have e : ((n.toNat : Nat) : Int) = n := by omega
 rw [this, e];rfl
theorem pnL_num (n d : Int) (h1 : -9223372036854775808 ≤ n) (h2 : n ≤ 9223372036854775807) (h : pnE n d = 0) : numA (pnL n d) = .tuple #[.int .i64 n, .int .i64 0] ∧ ((pnL n d).length : Int) = d ∧ 2 ≤ d := by
 unfold pnE at h;unfold pnL;split at h
 ·rename_i h0;obtain ⟨a, b, c, e⟩ := po_ok n d h0;rw [if_pos h0];refine ⟨?_, poL_length n d a, a⟩;unfold numA;rw [if_neg (by have := poL_head n d a; omega)];exact poL_oct n d h2 h0
 ·rename_i h0;obtain ⟨a, b, c⟩ := pb_ok n d h;rw [if_neg h0];refine ⟨?_, pbL_length n d a, a⟩;obtain ⟨q1, q2⟩ := binV_bfd n (d.toNat - 1) c;have hB := q2 (by omega);have hh := (of_decide_eq_true hB).2;unfold numA pbL;rw [if_pos hh, binA_ok _ hB (by rw [q1, inI_iff]; exact ⟨h1, h2⟩), q1]
theorem bys_u8 (s : ByteArray) : (bys' s).map u8 = s.data.toList := by
 unfold bys';rw [List.map_map];have : (u8 ∘ fun u : UInt8 => BitVec.ofNat 8 u.toNat) = id := by funext u; exact u8_of u
 rw [this, List.map_id]
theorem txt_all (l : List By) : (txt l).all nz = true := by
 unfold txt
 induction l with
 | nil => rfl
 | cons x l ih =>
  rw [List.takeWhile_cons];split
  ·rw [List.all_cons, ih, Bool.and_true]; assumption
  ·rfl
theorem noZ_txt (s : ByteArray) (h : noZ s = true) : txt (bys' s) = bys' s := by
 have h' := of_decide_eq_true h;rcases ixz_txt (bys' s) with ⟨_, e⟩ | ⟨k, e, _, _⟩
 ·exact e
 ·unfold ixz at e;rw [bys_u8] at e;omega
theorem px_ok (s : ByteArray) (d : Int) (h : pxE s d = 0) : str (txt (pxL s d)) = s ∧ ((pxL s d).length : Int) = d := by
 unfold pxE at h;split at h
 ·rename_i hc;split at h
  ·rename_i hs;have ht := noZ_txt s hc.2.2;have ha := txt_all (bys' s);rw [ht] at ha;constructor
   ·unfold pxL txt;rw [(tw_all (bys' s) _ nz ha (fun x hx => by
     cases hm : d.toNat - s.size with
     | zero => rw [hm] at hx; cases hx
     | succ m => rw [hm] at hx; injection hx with hx; rw [← hx]; decide)).1]
    exact str_bys s
   ·unfold pxL;rw [List.length_append, bys_len, List.length_replicate]; omega
  ·cases h
 ·cases h
end Go.Proofs.YtlenihpbhlfcoaaGreatDoor

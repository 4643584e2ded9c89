import Derived.Test.YtlenihpbhlfcoaaGreatDoorUae
set_option maxHeartbeats 8000000
set_option maxRecDepth 100000
set_option linter.unusedSimpArgs false
set_option linter.unusedVariables false
namespace Go.Proofs.YtlenihpbhlfcoaaGreatDoor
open Go.RowKit
theorem cellsOne : Tryz.prog.cellsOf 5 = 1 := by kernel_rfl
theorem part_rc (b : List By) (I : Nat) (h : I < b.length) (w : World) : (part 5 (rc b) (I * 1)).run Tryz.prog w = .ok (.int .u8 b[I].toNat) w := by
 have := rc_at b I h;have ha : (isAgg 5).run Tryz.prog w = .ok false w := by
  unfold isAgg;rw [Sem.run_bind, run_underlying Tryz.underlying5 w];rfl
 simp [part, Nat.mul_one, ha, this]
theorem eqItems_rc (d : Nat) (a b : List By) (w : World) (is : List Nat) (h : ∀ i ∈ is, i < a.length ∧ i < b.length) :
  (Op.eqItems (d + 1) 5 1 (rc a) (rc b) is).run Tryz.prog w = .ok (is.all (fun i => a.getD i 0 == b.getD i 0)) w := by
 induction is with
 | nil => simp [Op.eqItems]
 | cons i is ih =>
  obtain ⟨h1, h2⟩ := h i (by simp);have e1 : a.getD i 0 = a[i] := by rw [List.getD_eq_getElem?_getD, List.getElem?_eq_getElem h1]; rfl
  have e2 : b.getD i 0 = b[i] := by rw [List.getD_eq_getElem?_getD, List.getElem?_eq_getElem h2]; rfl
  have ih' := ih (fun j hj => h j (by simp [hj]));have hq := run_equalIn_int w d 5 .u8 .u8 (a[i].toNat : Int) (b[i].toNat : Int) Tryz.underlying5;have hbe : ((a[i].toNat : Int) == (b[i].toNat : Int)) = (a[i] == b[i]) := by
   rw [Bool.eq_iff_iff, beq_iff_eq, beq_iff_eq];constructor
   ·intro e; exact BitVec.eq_of_toNat_eq (by omega)
   ·intro e; rw [e]
  rw [hbe] at hq;simp only [Op.eqItems, Sem.run_bind, part_rc a i h1 w, part_rc b i h2 w, Result.andThen_ok, hq, List.all_cons, e1, e2];cases hc : (a[i] == b[i]) with
  | true => simp only [Bool.not_true, Bool.false_eq_true, ↓reduceIte, ih', Bool.true_and]
  | false => simp
theorem all_range (a b : List By) (n : Nat) (h1 : a.length = n) (h2 : b.length = n) : (List.range n).all (fun i => a.getD i 0 == b.getD i 0) = decide (a = b) := by
 rw [Bool.eq_iff_iff, decide_eq_true_iff, List.all_eq_true];constructor
 ·intro h;apply List.ext_getElem?;intro i;by_cases hi : i < n
  ·have := h i (List.mem_range.2 hi);rw [beq_iff_eq, List.getD_eq_getElem?_getD, List.getD_eq_getElem?_getD, List.getElem?_eq_getElem (by omega), List.getElem?_eq_getElem (by omega)] at this;rw [List.getElem?_eq_getElem (by omega), List.getElem?_eq_getElem (by omega)];exact congrArg some this
  ·rw [List.getElem?_eq_none (by omega), List.getElem?_eq_none (by omega)]
 ·rintro rfl i _;simp
theorem eql_rec (a b : List By) (h1 : a.length = 512) (h2 : b.length = 512) (w : World) : (Op.equalIn 10000 58 (.agg (rc a)) (.agg (rc b))).run Tryz.prog w = .ok (decide (a = b)) w := by
 obtain ⟨i, hi, hz, hsz, hby⟩ := infoB;have e := run_equalIn_array (P := Tryz.prog) w 9999 (t := 58) (e := 5) (rc a) (rc b) Tryz.underlying58 hi;rw [cellsOne, eqItems_rc 9998 a b w _ (fun i hi => by rw [h1, h2]; have := List.mem_range.1 hi; exact ⟨this, this⟩), all_range a b 512 h1 h2] at e;exact e
theorem zero_any (b : List By) (hb : b.length = 512) (w : World) : Calls Tryz.prog 34 #[.agg (rc b)] w fun e w' => e = .returned (.bool (decide (b = zrec))) ∧ Nw w w' := by
 refine asP fun P hP => ?_
 have HF : Hid (P (.returned (.bool (decide (b = zrec)))) (w.alloc (.cells (rc b) 58))) := by
  show P _ _;rw [hP]; exact ⟨rfl, (Fr.refl _ _).alloc _⟩
 clear hP;have heq := eql_rec b zrec hb zrec_length (w.alloc (.cells (rc b) 58));rw [← zrec_rc] at heq;have H2 := tHid (rec_heap w b);have HI := tHid (rc_info b hb);generalize decide (b = zrec) = B at *;generalize rc b = C at *;go_enter Tryz.func34, Tryz.ntmps34
 go_wp2_with (first
  | (refine wpList_load_row rfl 58 _ rfl w.heap.size (by first | rfl | simp [Act.eval]) 58 _ (0, 0) _ H2.out Tryz.underlying58 rfl HI.out ?_))
 first | exact HF.out | (go_ret; exact HF.out)
def fld (b : List By) : List By := (b.drop 148).take 8
def chk (b : List By) : Bool := decide (octE (fld b) = 0) && (decide ((octN (fld b) : Int) = su (blk b)) || decide ((octN (fld b) : Int) = ss (blk b)))
theorem fld_sl (w : World) (g : Nat) (b : List By) (hb : b.length = 512) (h : w.heap[g]? = some (.cells (rc b) 58)) : Sl (fun _ => False) (.slice (some ⟨g, 148, none⟩) 8 364) (fld b) w := by
 have hl : (fld b).length = 8 := by unfold fld; rw [List.length_take, List.length_drop]; omega
 refine .inr ⟨g, fun h => h, 148, 364, by rw [hl], by rw [hl]; decide, by decide, ?_⟩;have hr : Rd g 0 b w := fun j hj => by
  rw [Nat.zero_add];have := rc_at b j hj;simp only [World.cell?, h]
  simpa using this
 exact (hr.drop 148).take 8
theorem check_any (b : List By) (hb : b.length = 512) (w : World) :
  Calls Tryz.prog 81 #[.agg (rc b)] w fun e w' => e = .returned (.bool (chk b)) ∧ Nw w w' := by
 refine asP fun P hP => ?_
 have HF : Hid (∀ W, Nw w W → P (.returned (.bool (chk b))) W) := fun W hW => by rw [hP]; exact ⟨rfl, hW⟩
 clear hP;obtain ⟨W1, hW1⟩ : ∃ W1, w.alloc (.cells (rc b) 58) = W1 := ⟨_, rfl⟩;have h1 : W1.heap[w.heap.size]? = some (.cells (rc b) 58) := by rw [← hW1]; exact rec_heap w b
 have n1 : Nw w W1 := by rw [← hW1]; exact (Fr.refl _ _).alloc _
 have H1 := tHid h1;have HI := tHid (rc_info b hb);have HSU : Hid (Calls Tryz.prog 50 #[.agg (rc b)] W1 fun e w' => e = .returned (.tuple #[.int .i64 (su (blk b)), .int .i64 (ss (blk b))]) ∧ Hid (Nw w w' ∧ Calls Tryz.prog 109 #[.slice (some ⟨w.heap.size, 148, none⟩) 8 364] w' fun e w2 => e = .returned (.tuple #[.int .i64 (octN (fld b) : Nat), .int .i64 (octE (fld b) : Nat)]) ∧ Hid (Nw w' w2))) := by
  refine (sums_any b hb W1).mono ?_;rintro e w' ⟨rfl, h⟩;refine ⟨rfl, n1.trans h, ?_⟩;refine (octal_any w' _ 8 364 _ (fld_sl w' w.heap.size b hb (h.heap h1))).mono ?_;rintro e w2 ⟨rfl, h2⟩;exact ⟨rfl, h2⟩
 have hck : chk b = (decide (octE (fld b) = 0) && (decide ((octN (fld b) : Int) = su (blk b)) || decide ((octN (fld b) : Int) = ss (blk b)))) := rfl;rw [hck] at HF;clear h1 n1 hck;generalize su (blk b) = A at *;generalize ss (blk b) = B at *;generalize octN (fld b) = N at *;generalize octE (fld b) = E at *;generalize rc b = C at *;go_enter Tryz.func81, Tryz.ntmps81;go_upto_region 2 with (first
  | (refine wpList_load_row rfl 58 _ rfl w.heap.size (by first | rfl | simp [Act.eval]) 58 _ (0, 0) _ H1.out Tryz.underlying58 rfl HI.out ?_)
  | (go_at_call 50; with_reducible refine HSU.out.mono ?_; rintro e w2 ⟨rfl, K2⟩))
 have HO := tHid K2.out.2;have HN2 := tHid K2.out.1;clear HSU K2 H1 HI;go_upto_region 3 with (first
  | (go_at_call 109; with_reducible refine HO.out.mono ?_; rintro e w3 ⟨rfl, K3⟩))
 have HF3 := tHid (HF.out w3 (HN2.out.trans K3.out));clear HF HO HN2 K3;by_cases hE : E = 0
 ·subst hE;rw [decide_eq_true rfl, Bool.true_and] at HF3;by_cases hA : (N : Int) = A
  ·rw [decide_eq_true hA, Bool.true_or] at HF3;have q1 : ((N : Int) == A) = true := by simpa using hA
   clear hA
   go_wp2_with fail
   exact HF3.out
  ·rw [decide_eq_false hA, Bool.false_or] at HF3;have q1 : ((N : Int) == A) = false := by simpa using hA
   clear hA;by_cases hB : (N : Int) = B
   ·rw [decide_eq_true hB] at HF3;have q2 : ((N : Int) == B) = true := by simpa using hB
    clear hB
    go_wp2_with fail
    exact HF3.out
   ·rw [decide_eq_false hB] at HF3;have q2 : ((N : Int) == B) = false := by simpa using hB
    clear hB
    go_wp2_with fail
    exact HF3.out
 ·rw [decide_eq_false hE, Bool.false_and] at HF3;have q1 : ((E : Int) == 0) = false := by rw [beq_eq_false_iff_ne]; omega
  go_wp2_with fail
  exact HF3.out
theorem put_sl {E : Nat} {L : List By} {w w' : World} {a : Option Addr} {m c : Nat} (h : (E ≠ 0 ∧ a = none ∧ m = 0 ∧ c = 0) ∨ (E = 0 ∧ ∃ g, w.heap.size ≤ g ∧ Ow g (.slice a m c) L w')) (hE : E = 0) : ∃ g, a = some ⟨g, 0, none⟩ ∧ Ow g (.slice (some ⟨g, 0, none⟩) m c) L w' ∧ L.length = m ∧ m ≤ c ∧ c < 9223372036854775808 := by
 rcases h with ⟨h, _⟩ | ⟨_, g, _, hO⟩
 ·exact absurd hE h
 ·have hO' := hO;obtain ⟨xs, e, h2, h3, h4, h5⟩ := hO;injection e with ea en ec;subst ea;exact ⟨g, rfl, hO', by omega, by omega, by omega⟩
namespace fieldBack
end fieldBack
end Go.Proofs.YtlenihpbhlfcoaaGreatDoor
namespace Go.Proofs.YtlenihpbhlfcoaaGreatDoor
open Go.RowKit
theorem su_bound (l : List By) : 0 ≤ su l ∧ su l ≤ 255 * l.length := by
 have h : ∀ (l : List By) (n : Int), l.foldl (fun n x => n + (x.toNat : Int)) n = n + su l := by
  intro l
  induction l with
  | nil => intro n; simp [su]
  | cons x l ih =>
   intro n;unfold su;rw [List.foldl_cons, List.foldl_cons, ih, ih (0 + (x.toNat : Int))]; omega
 induction l with
 | nil => simp [su]
 | cons x l ih =>
  have hx := x.isLt;have e : su (x :: l) = (0 + (x.toNat : Int)) + su l := by
   show (x :: l).foldl _ 0 = _;rw [List.foldl_cons, h]
  rw [e, List.length_cons];omega
def dgl (b : List By) : List By := ol (su (blk b)).toNat 6
def psm (b : List By) : List By := b.take 148 ++ (dgl b ++ ([0#8, 32#8] ++ b.drop 156))
theorem psm_length (b : List By) (hb : b.length = 512) : (psm b).length = 512 := by
 unfold psm dgl;rw [List.length_append, List.length_append, List.length_append, List.length_take, ol_length, List.length_drop, hb];decide
theorem po_sum (b : List By) (hb : b.length = 512) : poE (su (blk b)) 7 = 0 ∧ poL (su (blk b)) 7 = dgl b ++ [0#8] := by
 obtain ⟨h1, h2⟩ := su_bound (blk b);rw [blk_length b hb] at h2;constructor
 ·unfold poE;rw [if_pos (by decide), if_neg (by omega), if_pos];apply (Nat.div_eq_zero_iff_lt (Nat.pow_pos (by decide))).2;have : (8 : Nat) ^ ((7 : Int).toNat - 1) = 262144 := by decide
  omega
 ·rfl
theorem copy_recB (w : World) (g o n c : Nat) (b : List By) (g2 m c2 : Nat) (l : List By) (hg : w.heap[g]? = some (.cells (rc b) 58)) (hl : l.length = m) (hm : m ≤ n) (ho : o + m ≤ b.length) (hS : Rd g2 0 l w) :
  (∀ ty, (cpyT #[22, 22] ty #[.slice (some ⟨g, o, none⟩) n c, .slice (some ⟨g2, 0, none⟩) m c2]).run Tryz.prog w = .ok (.int .i64 (m : Int)) (w.setRow g (rc (b.take o ++ (l ++ b.drop (o + m)))))) := by
 intro ty;obtain ⟨i, hi, hz, hsz, hby⟩ := infoB;have hrun := run_copy_row (P := Tryz.prog) w 22 22 ty 5 g o n c ⟨g2, 0, none⟩ m c2 (rc b) 58 (l.map bv) Tryz.underlying22 (by rw [hi]; simp [hsz]) hg (by rw [List.length_map, hl]; exact (Nat.min_eq_left hm).symm) (fun j v hj => by
  rw [add_addr];simp only [List.getElem?_map, Option.map_eq_some_iff] at hj;obtain ⟨x, hx, rfl⟩ := hj;exact hS.at j x hx) (by rw [rc_size, List.length_map, hl]; exact ho) (bv_one _)
 have ec : ((rc b).toList.take o ++ l.map bv ++ (rc b).toList.drop (o + (l.map bv).length)).toArray = rc (b.take o ++ (l ++ b.drop (o + m))) := by
  unfold rc;rw [List.length_map, hl, List.map_append, List.map_append, List.map_take, List.map_drop, List.append_assoc]
 rw [ec, List.length_map, hl] at hrun;exact hrun
def bl1 : ByteArray := ⟨#[32]⟩
theorem bl1_bys : bys' bl1 = [32#8] := by decide
theorem psm_eq (b : List By) (hb : b.length = 512) : ((b.take 148 ++ ((dgl b ++ [0#8]) ++ b.drop (148 + 7))).take 155 ++ ([32#8] ++ (b.take 148 ++ ((dgl b ++ [0#8]) ++ b.drop (148 + 7))).drop (155 + 1))) = psm b := by
 have hd : (dgl b).length = 6 := ol_length _ _;have h1 : (b.take 148).length = 148 := by rw [List.length_take]; omega
 have e : b.take 148 ++ ((dgl b ++ [0#8]) ++ b.drop (148 + 7)) = (b.take 148 ++ (dgl b ++ [0#8])) ++ b.drop 155 := by simp
 have hl : (b.take 148 ++ (dgl b ++ [0#8])).length = 155 := by rw [List.length_append, List.length_append, h1, hd]; rfl
 rw [e, List.take_append_of_le_length (by omega), List.take_of_length_le (by omega), List.drop_append, List.drop_eq_nil_of_le (by omega), hl, List.nil_append, List.drop_drop];unfold psm;simp
section
attribute [local go_sem ↓] cpyT_fold
theorem putSum_any (b : List By) (hb : b.length = 512) (w : World) :
  Calls Tryz.prog 31 #[.agg (rc b)] w fun e w' => e = .returned (.agg (rc (psm b))) ∧ Nw w w' := by
 refine asP fun P hP => ?_
 have HF : Hid (∀ W, Nw w W → P (.returned (.agg (rc (psm b)))) W) := fun W hW => by rw [hP]; exact ⟨rfl, hW⟩
 clear hP;obtain ⟨W1, hW1⟩ : ∃ W1, (w.alloc (.cells (rc b) 58)).alloc (.cells Tryz.zeroCells58 58) = W1 := ⟨_, rfl⟩;have hs1 : (w.alloc (.cells (rc b) 58)).heap.size = w.heap.size + 1 := by simp
 have h1 : W1.heap[w.heap.size]? = some (.cells (rc b) 58) := by
  rw [← hW1];exact Nw.heap ((Fr.refl _ _).alloc _) (rec_heap w b)
 have h2 : W1.heap[w.heap.size + 1]? = some (.cells Tryz.zeroCells58 58) := by
  rw [← hW1, ← hs1]; exact newHeap _ _
 have n1 : Nw w W1 := by rw [← hW1]; exact ((Fr.refl _ _).alloc _).alloc _
 have H1 := tHid h1;have HI := tHid (rc_info b hb);obtain ⟨q1, q2⟩ := po_sum b hb;obtain ⟨b1, b2⟩ := su_bound (blk b);rw [blk_length b hb] at b2;have HSU : Hid (Calls Tryz.prog 50 #[.agg (rc b)] W1 fun e w' => e = .returned (.tuple #[.int .i64 (su (blk b)), .int .i64 (ss (blk b))]) ∧ Hid (Nw W1 w')) := sums_any b hb W1
 have HPO : Hid (∀ V, Nw W1 V → Calls Tryz.prog 40 #[.int .i64 (su (blk b)), .int .i64 7] V fun e w' => ∃ g c, e = .returned (.tuple #[.slice (some ⟨g, 0, none⟩) 7 c, .int .i64 0]) ∧ ∃ W3 W4 W5, (∀ ty, (cpyT #[22, 22] ty #[.slice (some ⟨w.heap.size, 148, none⟩) 364 364, .slice (some ⟨g, 0, none⟩) 7 c]).run Tryz.prog w' = .ok (.int .i64 7) W3) ∧ (∀ ty, (cpyT #[22, 9] ty #[.slice (some ⟨w.heap.size, 155, none⟩) 357 357, .string bl1]).run Tryz.prog W3 = .ok (.int .i64 1) W4) ∧ W4.heap[w.heap.size]? = some (.cells (rc (psm b)) 58) ∧ W4.heap[w.heap.size + 1]? = some (.cells Tryz.zeroCells58 58) ∧ W4.setRow (w.heap.size + 1) (rc (psm b)) = W5 ∧ W5.heap[w.heap.size + 1]? = some (.cells (rc (psm b)) 58) ∧ Hid (Nw w W5)) := fun V hV => by
  refine (putOctal_any (su (blk b)) 7 V (by omega) (by omega)).mono ?_;rintro e w' ⟨a, m, c, rfl, j1, j2⟩;rw [q1, q2] at j2;rw [q1];obtain ⟨g, ea, hO, e1, e2, e3⟩ := put_sl j2 rfl;subst ea;have hm : m = 7 := by rw [← e1, List.length_append, show (dgl b).length = 6 from ol_length _ _]; rfl
  subst hm;have hh : w'.heap[w.heap.size]? = some (.cells (rc b) 58) := (hV.trans j1).heap h1;have hh2 : w'.heap[w.heap.size + 1]? = some (.cells Tryz.zeroCells58 58) := (hV.trans j1).heap h2;have c1 := copy_recB w' w.heap.size 148 364 364 b g 7 c (dgl b ++ [0#8]) hh (by rw [List.length_append, show (dgl b).length = 6 from ol_length _ _]; rfl) (by decide) (by omega) (by
   obtain ⟨o, c', e, _, _, hr⟩ := hO.slb;injection e with ea _ _;injection ea with ea;injection ea with _ eo;have eo' : o = 0 := eo.symm;subst eo';exact hr)
  obtain ⟨W3, hW3⟩ : ∃ W3, w'.setRow w.heap.size (rc (b.take 148 ++ ((dgl b ++ [0#8]) ++ b.drop (148 + 7)))) = W3 := ⟨_, rfl⟩;rw [hW3] at c1;have k3 : W3.heap[w.heap.size]? = some (.cells (rc (b.take 148 ++ ((dgl b ++ [0#8]) ++ b.drop (148 + 7)))) 58) := by rw [← hW3]; exact setRow_heap _ _ _ _ 58 _ hh
  have f3 : Fr (fun k => k = w.heap.size) w' W3 := by rw [← hW3]; exact (Fr.refl _ _).setRow _ _ (.inl rfl)
  have k3' : W3.heap[w.heap.size + 1]? = some (.cells Tryz.zeroCells58 58) := (f3.block _ (Array.getElem?_eq_some_iff.1 hh2).1 (by omega)).trans hh2;have hlen : (b.take 148 ++ ((dgl b ++ [0#8]) ++ b.drop (148 + 7))).length = 512 := by
   rw [List.length_append, List.length_append, List.length_append, List.length_take, List.length_drop, show (dgl b).length = 6 from ol_length _ _, hb]; decide
  have c2 := copy_rec W3 w.heap.size 155 357 357 _ bl1 k3 (by decide) (by rw [hlen]; decide);rw [bl1_bys, show bl1.size = 1 from rfl, psm_eq b hb] at c2;obtain ⟨W4, hW4⟩ : ∃ W4, W3.setRow w.heap.size (rc (psm b)) = W4 := ⟨_, rfl⟩;rw [hW4] at c2;have k4 : W4.heap[w.heap.size]? = some (.cells (rc (psm b)) 58) := by rw [← hW4]; exact setRow_heap _ _ _ _ 58 _ k3
  have f4 : Fr (fun k => k = w.heap.size) W3 W4 := by rw [← hW4]; exact (Fr.refl _ _).setRow _ _ (.inl rfl)
  have k4' : W4.heap[w.heap.size + 1]? = some (.cells Tryz.zeroCells58 58) := (f4.block _ (Array.getElem?_eq_some_iff.1 k3').1 (by omega)).trans k3';have f5 : Fr (fun k => k = w.heap.size + 1) W4 (W4.setRow (w.heap.size + 1) (rc (psm b))) := (Fr.refl _ _).setRow _ _ (.inl rfl);refine ⟨g, c, rfl, W3, W4, _, c1, c2, k4, k4', rfl, setRow_heap _ _ _ _ 58 _ k4', ?_⟩;have t1 : Nw w W3 := Fr.then (n1.trans (hV.trans j1)) f3 (fun i hi => .inr (by omega));have t2 : Nw w W4 := Fr.then t1 f4 (fun i hi => .inr (by omega));exact Fr.then t2 f5 (fun i hi => .inr (by omega))
 have HIP := tHid (rc_info (psm b) (psm_length b hb));have HOP := tHid (rc_one (psm b));have HZS : Hid (Tryz.zeroCells58.size = (rc (psm b)).size) := by
  show _ = _;rw [zrec_rc, rc_size, rc_size, zrec_length, psm_length b hb]
 clear h1 h2 n1 q1 q2 hs1;generalize hA : su (blk b) = A at *;generalize ss (blk b) = B at *;generalize hC : rc b = C at *;generalize hD : rc (psm b) = D at *;clear hA hC hD
 skip
 go_enter Tryz.func31, Tryz.ntmps31
 go_upto_region 2 with (first
  | (refine wpList_load_row rfl 58 _ rfl w.heap.size (by first | rfl | simp [Act.eval]) 58 _ (0, 0) _ H1.out Tryz.underlying58 rfl HI.out ?_)
  | (go_at_call 50; with_reducible refine HSU.out.mono ?_; rintro e w2 ⟨rfl, K2⟩))
 have HP2 := tHid (HPO.out w2 K2.out);clear HSU HPO;go_upto_region 3 with (first
  | (go_at_call 40; with_reducible refine HP2.out.mono ?_; rintro e w3 ⟨g, c, rfl, W3, W4, W5, c1, c2, k4, k4', e5, k5, K5⟩))
 have K4 := tHid k4;have K4' := tHid k4';have K5' := tHid k5;have c2' : ∀ ty, (cpyT #[22, 9] ty #[.slice (some ⟨w.heap.size, 155, none⟩) 357 357, .string ⟨#[32]⟩]).run Tryz.prog W3 = .ok (.int .i64 1) W4 := c2;clear HP2 k4 k4' k5 HI H1 c2 K2 hb b1 b2
 go_wp2_with (first
  | (refine wpList_load_row rfl 58 _ rfl w.heap.size (by first | rfl | simp [Act.eval]) 58 _ (0, 0) _ K4.out Tryz.underlying58 rfl HIP.out ?_)
  | (refine wpList_store_row rfl 58 _ _ rfl (w.heap.size + 1) D (by first | rfl | simp [Act.eval]) (by first | rfl | simp [Act.eval]) 58 _ K4'.out HIP.out HZS.out HOP.out ?_; rw [e5]))
 (try simp only [Exit.inBlock, Exit.then])
 refine bodyPost_ret (results_cell_row (P := Tryz.prog) (p := 2) (ty := 58) rfl _ _ (w.heap.size + 1) 58 D (0, 0) _ rfl K5'.out Tryz.underlying58 rfl HIP.out) rfl (HF.out _ K5.out)
end
end Go.Proofs.YtlenihpbhlfcoaaGreatDoor

import Derived.Test.YtoegbaenheeogaaNgB
import Derived.Test.YtoegbaenheeogaaNfR
namespace Go.Proofs.Ytoegbaenheeogaa
open Go.RowKit
set_option linter.unusedVariables false
/-! ### PutSum -/
theorem su_bound (l : List By) : 0 ≤ su l ∧ su l ≤ 255 * l.length := by
  have h : ∀ (l : List By) (n : Int), l.foldl (fun n x => n + (x.toNat : Int)) n = n + su l := by
    intro l
    induction l with
    | nil => intro n; simp [su]
    | cons x l ih =>
      intro n
      unfold su
      rw [List.foldl_cons, List.foldl_cons, ih, ih (0 + (x.toNat : Int))]; omega
  induction l with
  | nil => simp [su]
  | cons x l ih =>
    have hx := x.isLt
    have e : su (x :: l) = (0 + (x.toNat : Int)) + su l := by
      show (x :: l).foldl _ 0 = _
      rw [List.foldl_cons, h]
    rw [e, List.length_cons]
    omega
/-- The sum in digits. -/
def dgl (b : List By) : List By := ol (su (blk b)).toNat 6
def psm (b : List By) : List By := b.take 148 ++ (dgl b ++ ([0#8, 32#8] ++ b.drop 156))
theorem psm_length (b : List By) (hb : b.length = 512) : (psm b).length = 512 := by
  unfold psm dgl
  rw [List.length_append, List.length_append, List.length_append, List.length_take, ol_length, List.length_drop, hb]
  decide
theorem po_sum (b : List By) (hb : b.length = 512) : poE (su (blk b)) 7 = 0 ∧ poL (su (blk b)) 7 = dgl b ++ [0#8] := by
  obtain ⟨h1, h2⟩ := su_bound (blk b)
  rw [blk_length b hb] at h2
  constructor
  · unfold poE
    rw [if_pos (by decide), if_neg (by omega), if_pos]
    apply (Nat.div_eq_zero_iff_lt (Nat.pow_pos (by decide))).2
    have : (8 : Nat) ^ ((7 : Int).toNat - 1) = 262144 := by decide
    omega
  · rfl
set_option maxRecDepth 100000 in
/-- Bytes copied into a record. -/
theorem copy_recB (w : World) (g o n c : Nat) (b : List By) (g2 m c2 : Nat) (l : List By) (hg : w.heap[g]? = some (.cells (rc b) 24)) (hl : l.length = m) (hm : m ≤ n) (ho : o + m ≤ b.length) (hS : Rd g2 0 l w) :
    (∀ ty, (cpyT #[52, 52] ty #[.slice (some ⟨g, o, none⟩) n c, .slice (some ⟨g2, 0, none⟩) m c2]).run Try.prog w = .ok (.int .i64 (m : Int)) (w.setRow g (rc (b.take o ++ (l ++ b.drop (o + m)))))) := by
  intro ty
  obtain ⟨i, hi, hz, hsz, hby⟩ := infoB
  have hrun := run_copy_row (P := Try.prog) w 52 52 ty 5 g o n c ⟨g2, 0, none⟩ m c2 (rc b) 24 (l.map bv) Try.underlying52 (by rw [hi]; simp [hsz]) hg (by rw [List.length_map, hl]; exact (Nat.min_eq_left hm).symm) (fun j v hj => by
    rw [add_addr]
    simp only [List.getElem?_map, Option.map_eq_some_iff] at hj
    obtain ⟨x, hx, rfl⟩ := hj
    exact hS.at j x hx) (by rw [rc_size, List.length_map, hl]; exact ho) (bv_one _)
  have ec : ((rc b).toList.take o ++ l.map bv ++ (rc b).toList.drop (o + (l.map bv).length)).toArray = rc (b.take o ++ (l ++ b.drop (o + m))) := by
    unfold rc
    rw [List.length_map, hl, List.map_append, List.map_append, List.map_take, List.map_drop, List.append_assoc]
  rw [ec, List.length_map, hl] at hrun
  exact hrun
def bl1 : ByteArray := ⟨#[32]⟩
theorem bl1_bys : bys' bl1 = [32#8] := by decide
theorem psm_eq (b : List By) (hb : b.length = 512) : ((b.take 148 ++ ((dgl b ++ [0#8]) ++ b.drop (148 + 7))).take 155 ++ ([32#8] ++ (b.take 148 ++ ((dgl b ++ [0#8]) ++ b.drop (148 + 7))).drop (155 + 1))) = psm b := by
  have hd : (dgl b).length = 6 := ol_length _ _
  have h1 : (b.take 148).length = 148 := by rw [List.length_take]; omega
  have e : b.take 148 ++ ((dgl b ++ [0#8]) ++ b.drop (148 + 7)) = (b.take 148 ++ (dgl b ++ [0#8])) ++ b.drop 155 := by simp
  have hl : (b.take 148 ++ (dgl b ++ [0#8])).length = 155 := by rw [List.length_append, List.length_append, h1, hd]; rfl
  rw [e, List.take_append_of_le_length (by omega), List.take_of_length_le (by omega), List.drop_append, List.drop_eq_nil_of_le (by omega), hl, List.nil_append, List.drop_drop]
  unfold psm
  simp
section
attribute [local go_sem ↓] cpyT_fold
set_option maxHeartbeats 8000000 in
set_option maxRecDepth 100000 in
theorem putSum_any (b : List By) (hb : b.length = 512) (w : World) :
    Calls Try.prog 20 #[.agg (rc b)] w fun e w' => e = .returned (.agg (rc (psm b))) ∧ Nw w w' := by
  obtain ⟨P, hP⟩ : ∃ P : Ending → World → Prop, P = fun e w' => e = .returned (.agg (rc (psm b))) ∧ Nw w w' := ⟨_, rfl⟩
  rw [← hP]
  have HF : Hid (∀ W, Nw w W → P (.returned (.agg (rc (psm b)))) W) := fun W hW => by rw [hP]; exact ⟨rfl, hW⟩
  clear hP
  obtain ⟨W1, hW1⟩ : ∃ W1, (w.alloc (.cells (rc b) 24)).alloc (.cells Try.zeroCells24 24) = W1 := ⟨_, rfl⟩
  have hs1 : (w.alloc (.cells (rc b) 24)).heap.size = w.heap.size + 1 := by simp
  have h1 : W1.heap[w.heap.size]? = some (.cells (rc b) 24) := by
    rw [← hW1]
    exact Nw.heap ((Fr.refl _ _).alloc _) (rec_heap w b)
  have h2 : W1.heap[w.heap.size + 1]? = some (.cells Try.zeroCells24 24) := by
    rw [← hW1, ← hs1]; exact newHeap _ _
  have n1 : Nw w W1 := by rw [← hW1]; exact ((Fr.refl _ _).alloc _).alloc _
  have H1 := tHid h1
  have HI := tHid (rc_info b hb)
  obtain ⟨q1, q2⟩ := po_sum b hb
  obtain ⟨b1, b2⟩ := su_bound (blk b)
  rw [blk_length b hb] at b2
  have HSU : Hid (Calls Try.prog 40 #[.agg (rc b)] W1 fun e w' => e = .returned (.tuple #[.int .i64 (su (blk b)), .int .i64 (ss (blk b))]) ∧ Hid (Nw W1 w')) := sums_any b hb W1
  have HPO : Hid (∀ V, Nw W1 V → Calls Try.prog 30 #[.int .i64 (su (blk b)), .int .i64 7] V fun e w' => ∃ g c, e = .returned (.tuple #[.slice (some ⟨g, 0, none⟩) 7 c, .int .i64 0]) ∧ ∃ W3 W4 W5, (∀ ty, (cpyT #[52, 52] ty #[.slice (some ⟨w.heap.size, 148, none⟩) 364 364, .slice (some ⟨g, 0, none⟩) 7 c]).run Try.prog w' = .ok (.int .i64 7) W3) ∧ (∀ ty, (cpyT #[52, 9] ty #[.slice (some ⟨w.heap.size, 155, none⟩) 357 357, .string bl1]).run Try.prog W3 = .ok (.int .i64 1) W4) ∧ W4.heap[w.heap.size]? = some (.cells (rc (psm b)) 24) ∧ W4.heap[w.heap.size + 1]? = some (.cells Try.zeroCells24 24) ∧ W4.setRow (w.heap.size + 1) (rc (psm b)) = W5 ∧ W5.heap[w.heap.size + 1]? = some (.cells (rc (psm b)) 24) ∧ Hid (Nw w W5)) := fun V hV => by
    refine (putOctal_any (su (blk b)) 7 V (by omega) (by omega)).mono ?_
    rintro e w' ⟨a, m, c, rfl, j1, j2⟩
    rw [q1, q2] at j2
    rw [q1]
    obtain ⟨g, ea, hO, e1, e2, e3⟩ := put_sl j2 rfl
    subst ea
    have hm : m = 7 := by rw [← e1, List.length_append, show (dgl b).length = 6 from ol_length _ _]; rfl
    subst hm
    have hh : w'.heap[w.heap.size]? = some (.cells (rc b) 24) := (hV.trans j1).heap h1
    have hh2 : w'.heap[w.heap.size + 1]? = some (.cells Try.zeroCells24 24) := (hV.trans j1).heap h2
    have c1 := copy_recB w' w.heap.size 148 364 364 b g 7 c (dgl b ++ [0#8]) hh (by rw [List.length_append, show (dgl b).length = 6 from ol_length _ _]; rfl) (by decide) (by omega) (by
      obtain ⟨o, c', e, _, _, hr⟩ := hO.slb
      injection e with ea _ _
      injection ea with ea
      injection ea with _ eo
      have eo' : o = 0 := eo.symm
      subst eo'
      exact hr)
    obtain ⟨W3, hW3⟩ : ∃ W3, w'.setRow w.heap.size (rc (b.take 148 ++ ((dgl b ++ [0#8]) ++ b.drop (148 + 7)))) = W3 := ⟨_, rfl⟩
    rw [hW3] at c1
    have k3 : W3.heap[w.heap.size]? = some (.cells (rc (b.take 148 ++ ((dgl b ++ [0#8]) ++ b.drop (148 + 7)))) 24) := by rw [← hW3]; exact setRow_heap _ _ _ _ 24 _ hh
    have f3 : Fr (fun k => k = w.heap.size) w' W3 := by rw [← hW3]; exact (Fr.refl _ _).setRow _ _ (.inl rfl)
    have k3' : W3.heap[w.heap.size + 1]? = some (.cells Try.zeroCells24 24) := (f3.block _ (Array.getElem?_eq_some_iff.1 hh2).1 (by omega)).trans hh2
    have hlen : (b.take 148 ++ ((dgl b ++ [0#8]) ++ b.drop (148 + 7))).length = 512 := by
      rw [List.length_append, List.length_append, List.length_append, List.length_take, List.length_drop, show (dgl b).length = 6 from ol_length _ _, hb]; decide
    have c2 := copy_rec W3 w.heap.size 155 357 357 _ bl1 k3 (by decide) (by rw [hlen]; decide)
    rw [bl1_bys, show bl1.size = 1 from rfl, psm_eq b hb] at c2
    obtain ⟨W4, hW4⟩ : ∃ W4, W3.setRow w.heap.size (rc (psm b)) = W4 := ⟨_, rfl⟩
    rw [hW4] at c2
    have k4 : W4.heap[w.heap.size]? = some (.cells (rc (psm b)) 24) := by rw [← hW4]; exact setRow_heap _ _ _ _ 24 _ k3
    have f4 : Fr (fun k => k = w.heap.size) W3 W4 := by rw [← hW4]; exact (Fr.refl _ _).setRow _ _ (.inl rfl)
    have k4' : W4.heap[w.heap.size + 1]? = some (.cells Try.zeroCells24 24) := (f4.block _ (Array.getElem?_eq_some_iff.1 k3').1 (by omega)).trans k3'
    have f5 : Fr (fun k => k = w.heap.size + 1) W4 (W4.setRow (w.heap.size + 1) (rc (psm b))) := (Fr.refl _ _).setRow _ _ (.inl rfl)
    refine ⟨g, c, rfl, W3, W4, _, c1, c2, k4, k4', rfl, setRow_heap _ _ _ _ 24 _ k4', ?_⟩
    have t1 : Nw w W3 := Fr.then (n1.trans (hV.trans j1)) f3 (fun i hi => .inr (by omega))
    have t2 : Nw w W4 := Fr.then t1 f4 (fun i hi => .inr (by omega))
    exact Fr.then t2 f5 (fun i hi => .inr (by omega))
  have HIP := tHid (rc_info (psm b) (psm_length b hb))
  have HOP := tHid (rc_one (psm b))
  have HZS : Hid (Try.zeroCells24.size = (rc (psm b)).size) := by
    show _ = _
    rw [zrec_rc, rc_size, rc_size, zrec_length, psm_length b hb]
  clear h1 h2 n1 q1 q2 hs1
  generalize hA : su (blk b) = A at *
  generalize ss (blk b) = B at *
  generalize hC : rc b = C at *
  generalize hD : rc (psm b) = D at *
  clear hA hC hD
  skip
  go_enter Try.func20, Try.ntmps20
  go_upto_region 2 with (first
    | (refine wpList_load_row rfl 24 _ rfl w.heap.size (by first | rfl | simp [Act.eval]) 24 _ (0, 0) _ H1.out Try.underlying24 rfl HI.out ?_)
    | (go_at_call 40; with_reducible refine HSU.out.mono ?_; rintro e w2 ⟨rfl, K2⟩))
  have HP2 := tHid (HPO.out w2 K2.out)
  clear HSU HPO
  go_upto_region 3 with (first
    | (go_at_call 30; with_reducible refine HP2.out.mono ?_; rintro e w3 ⟨g, c, rfl, W3, W4, W5, c1, c2, k4, k4', e5, k5, K5⟩))
  have K4 := tHid k4
  have K4' := tHid k4'
  have K5' := tHid k5
  have c2' : ∀ ty, (cpyT #[52, 9] ty #[.slice (some ⟨w.heap.size, 155, none⟩) 357 357, .string ⟨#[32]⟩]).run Try.prog W3 = .ok (.int .i64 1) W4 := c2
  clear HP2 k4 k4' k5 HI H1 c2 K2 hb b1 b2
  go_wp2_with (first
    | (refine wpList_load_row rfl 24 _ rfl w.heap.size (by first | rfl | simp [Act.eval]) 24 _ (0, 0) _ K4.out Try.underlying24 rfl HIP.out ?_)
    | (refine wpList_store_row rfl 24 _ _ rfl (w.heap.size + 1) D (by first | rfl | simp [Act.eval]) (by first | rfl | simp [Act.eval]) 24 _ K4'.out HIP.out HZS.out HOP.out ?_; rw [e5]))
  (try simp only [Exit.inBlock, Exit.then])
  refine bodyPost_ret (results_cell_row (P := Try.prog) (p := 2) (ty := 24) rfl _ _ (w.heap.size + 1) 24 D (0, 0) _ rfl K5'.out Try.underlying24 rfl HIP.out) rfl (HF.out _ K5.out)
end
end Go.Proofs.Ytoegbaenheeogaa

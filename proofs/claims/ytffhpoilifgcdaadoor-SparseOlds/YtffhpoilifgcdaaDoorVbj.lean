import Derived.Test.YtffhpoilifgcdaaDoorVbh
import Derived.Test.YtffhpoilifgcdaaDoorVbi
namespace Go.Proofs.YtffhpoilifgcdaaDoor
open Go.RowKit
set_option linter.unusedVariables false
/-! ### PutSum -/
theorem su_bound (l : List By) : 0 ≤ su l ∧ su l ≤ 255 * l.length := by
  have h : ∀ (l : List By) (n : Int), l.foldl (fun n x => n + (x.toNat : Int)) n = n + su l := by
    intro l
    induction l with
    | nil => intro n; simp [su]
    | cons x l ih =>
      intro n
      unfold su
      rw [List.foldl_cons, List.foldl_cons, ih, ih (0 + (x.toNat : Int))]; omega
  induction l with
  | nil => simp [su]
  | cons x l ih =>
    have hx := x.isLt
    have e : su (x :: l) = (0 + (x.toNat : Int)) + su l := by
      show (x :: l).foldl _ 0 = _
      rw [List.foldl_cons, h]
    rw [e, List.length_cons]
    omega
/-- The sum in digits. -/
def dgl (b : List By) : List By := ol (su (blk b)).toNat 6
def psm (b : List By) : List By := b.take 148 ++ (dgl b ++ ([0#8, 32#8] ++ b.drop 156))
theorem psm_length (b : List By) (hb : b.length = 512) : (psm b).length = 512 := by
  unfold psm dgl
  rw [List.length_append, List.length_append, List.length_append, List.length_take, ol_length, List.length_drop, hb]
  decide
theorem po_sum (b : List By) (hb : b.length = 512) : poE (su (blk b)) 7 = 0 ∧ poL (su (blk b)) 7 = dgl b ++ [0#8] := by
  obtain ⟨h1, h2⟩ := su_bound (blk b)
  rw [blk_length b hb] at h2
  constructor
  · unfold poE
    rw [if_pos (by decide), if_neg (by omega), if_pos]
    apply (Nat.div_eq_zero_iff_lt (Nat.pow_pos (by decide))).2
    have : (8 : Nat) ^ ((7 : Int).toNat - 1) = 262144 := by decide
    omega
  · rfl
set_option maxRecDepth 100000 in
/-- Bytes copied into a record. -/
theorem copy_recB (w : World) (g o n c : Nat) (b : List By) (g2 m c2 : Nat) (l : List By) (hg : w.heap[g]? = some (.cells (rc b) 36)) (hl : l.length = m) (hm : m ≤ n) (ho : o + m ≤ b.length) (hS : Rd g2 0 l w) :
    (∀ ty, (cpyT #[23, 23] ty #[.slice (some ⟨g, o, none⟩) n c, .slice (some ⟨g2, 0, none⟩) m c2]).run Tryd.prog w = .ok (.int .i64 (m : Int)) (w.setRow g (rc (b.take o ++ (l ++ b.drop (o + m)))))) := by
  intro ty
  obtain ⟨i, hi, hz, hsz, hby⟩ := infoB
  have hrun := run_copy_row (P := Tryd.prog) w 23 23 ty 5 g o n c ⟨g2, 0, none⟩ m c2 (rc b) 36 (l.map bv) Tryd.underlying23 (by rw [hi]; simp [hsz]) hg (by rw [List.length_map, hl]; exact (Nat.min_eq_left hm).symm) (fun j v hj => by
    rw [add_addr]
    simp only [List.getElem?_map, Option.map_eq_some_iff] at hj
    obtain ⟨x, hx, rfl⟩ := hj
    exact hS.at j x hx) (by rw [rc_size, List.length_map, hl]; exact ho) (bv_one _)
  have ec : ((rc b).toList.take o ++ l.map bv ++ (rc b).toList.drop (o + (l.map bv).length)).toArray = rc (b.take o ++ (l ++ b.drop (o + m))) := by
    unfold rc
    rw [List.length_map, hl, List.map_append, List.map_append, List.map_take, List.map_drop, List.append_assoc]
  rw [ec, List.length_map, hl] at hrun
  exact hrun
def bl1 : ByteArray := ⟨#[32]⟩
theorem bl1_bys : bys' bl1 = [32#8] := by decide
theorem psm_eq (b : List By) (hb : b.length = 512) : ((b.take 148 ++ ((dgl b ++ [0#8]) ++ b.drop (148 + 7))).take 155 ++ ([32#8] ++ (b.take 148 ++ ((dgl b ++ [0#8]) ++ b.drop (148 + 7))).drop (155 + 1))) = psm b := by
  have hd : (dgl b).length = 6 := ol_length _ _
  have h1 : (b.take 148).length = 148 := by rw [List.length_take]; omega
  have e : b.take 148 ++ ((dgl b ++ [0#8]) ++ b.drop (148 + 7)) = (b.take 148 ++ (dgl b ++ [0#8])) ++ b.drop 155 := by simp
  have hl : (b.take 148 ++ (dgl b ++ [0#8])).length = 155 := by rw [List.length_append, List.length_append, h1, hd]; rfl
  rw [e, List.take_append_of_le_length (by omega), List.take_of_length_le (by omega), List.drop_append, List.drop_eq_nil_of_le (by omega), hl, List.nil_append, List.drop_drop]
  unfold psm
  simp
section
attribute [local go_sem ↓] cpyT_fold
end
end Go.Proofs.YtffhpoilifgcdaaDoor

import Derived.Test.YtoegbaenheeogaaGreatDoorNgC
namespace Go.Proofs.YtoegbaenheeogaaGreatDoor
open Go.RowKit
set_option linter.unusedVariables false
/-- A record in memory. -/
def RcH (g : Nat) (L : List By) (w : World) : Prop := w.heap[g]? = some (.cells (rc L) 28)
theorem RcH.set {g : Nat} {L : List By} {w : World} (h : RcH g L w) (j : Nat) (x : By) (z : Int) (hz : z = x.toNat) : RcH g (L.set j x) (w.setCell ⟨g, j, none⟩ (.int .u8 z)) := by
  subst hz
  unfold RcH rc at h ⊢
  simp only [World.setCell, Array.getElem?_modify, h]
  simp [List.map_set]
theorem RcH.cell {g : Nat} {L : List By} {w : World} (h : RcH g L w) (j : Nat) (hj : j < L.length) : w.cell? ⟨g, j, none⟩ = some (.int .u8 L[j].toNat) ∧ w.frozen? ⟨g, j, none⟩ = false := by
  have := rc_at L j hj
  unfold RcH at h
  constructor
  · simp only [World.cell?, h]; simpa using this
  · simp [World.frozen?, h]
theorem RcH.lt {g : Nat} {L : List By} {w : World} (h : RcH g L w) : g < w.heap.size := (Array.getElem?_eq_some_iff.1 h).1
theorem RcH.kept {g : Nat} {L : List By} {w w' : World} {X : Nat → Prop} (h : RcH g L w) (f : Fr X w w') (hx : ¬ X g) : RcH g L w' := (f.block g h.lt hx).trans h
def stg (b : List By) (N j : Nat) : List By := b.take (154 - j) ++ (ol N j ++ b.drop 154)
theorem stg_zero (b : List By) (N : Nat) : stg b N 0 = b := by unfold stg; simp [ol]
theorem stg_length (b : List By) (hb : b.length = 512) (N j : Nat) (hj : j ≤ 6) : (stg b N j).length = 512 := by
  unfold stg
  rw [List.length_append, List.length_append, List.length_take, ol_length, List.length_drop, hb]; omega
theorem take_at (b : List By) (k : Nat) (h : k < b.length) : b.take (k + 1) = b.take k ++ [b[k]] := take_snoc b k h
theorem stg_set (b : List By) (hb : b.length = 512) (N j : Nat) (hj : j < 6) : (stg b N j).set (153 - j) (dg (N / 8 ^ j)) = stg b N (j + 1) := by
  unfold stg
  have e1 : 154 - j = (153 - j) + 1 := by omega
  have e2 : 154 - (j + 1) = 153 - j := by omega
  rw [e1, e2, take_at b (153 - j) (by omega), List.append_assoc, List.singleton_append, ol, List.cons_append]
  have := set_mid (b[153 - j]'(by omega)) (dg (N / 8 ^ j)) (b.take (153 - j)) (ol N j ++ b.drop 154)
  rw [List.length_take, Nat.min_eq_left (by omega)] at this
  exact this
theorem stg_end (b : List By) (hb : b.length = 512) : ((stg b (su (blk b)).toNat 6).set 154 0#8).set 155 32#8 = psm b := by
  unfold stg psm dgl
  have hd : b.drop 154 = b[154] :: b[155] :: b.drop 156 := by rw [List.drop_eq_getElem_cons (by omega), List.drop_eq_getElem_cons (by omega)]
  have hl : (b.take 148 ++ ol (su (blk b)).toNat 6).length = 154 := by rw [List.length_append, List.length_take, ol_length]; omega
  have h1 := set_mid b[154] 0#8 (b.take 148 ++ ol (su (blk b)).toNat 6) (b[155] :: b.drop 156)
  rw [hl, List.append_assoc, List.append_assoc] at h1
  have e : b.take (154 - 6) ++ (ol (su (blk b)).toNat 6 ++ b.drop 154) = b.take 148 ++ (ol (su (blk b)).toNat 6 ++ (b[154] :: b[155] :: b.drop 156)) := by rw [hd]
  rw [e, h1]
  have h2 := set_mid b[155] 32#8 (b.take 148 ++ (ol (su (blk b)).toNat 6 ++ [0#8])) (b.drop 156)
  have hl2 : (b.take 148 ++ (ol (su (blk b)).toNat 6 ++ [0#8])).length = 155 := by rw [List.length_append, List.length_append, List.length_take, ol_length]; simp; omega
  rw [hl2] at h2
  simpa using h2
end Go.Proofs.YtoegbaenheeogaaGreatDoor

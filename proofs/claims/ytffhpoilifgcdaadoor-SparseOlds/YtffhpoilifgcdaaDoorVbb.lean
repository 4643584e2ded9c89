import Derived.Test.YtffhpoilifgcdaaDoorVaz
import Derived.Test.YtffhpoilifgcdaaDoorVba
import Derived.Test.YtffhpoilifgcdaaDoorVae
import Derived.Deep.RegionWith
namespace Go.Proofs.YtffhpoilifgcdaaDoor
open Go.RowKit
set_option linter.unusedVariables false
/-! ### Records -/
/-- A record's cells. -/
def rc (b : List By) : Array Value := (b.map bv).toArray
theorem rc_size (b : List By) : (rc b).size = b.length := by unfold rc; simp
theorem rc_one (b : List By) : (rc b).all (·.oneCell') = true := by
  rw [Array.all_eq_true_iff_forall_mem]
  intro v hv
  unfold rc at hv
  rw [List.mem_toArray] at hv
  exact bv_one b v hv
theorem rc_info (b : List By) (h : b.length = 512) : (Tryd.prog.info? 36).map (·.size) = some (rc b).size := by rw [rc_size, h]; kernel_rfl
theorem rc_at (b : List By) (I : Nat) (h : I < b.length) : (rc b)[I]? = some (.int .u8 b[I].toNat) := by
  unfold rc
  simp [h]
theorem rc_inj (a b : List By) (h : rc a = rc b) : a = b := by
  unfold rc at h
  have h1 : a.map bv = b.map bv := by simpa using h
  exact (List.map_inj_right (fun x y hxy => by
    injection hxy with _ hxy
    exact BitVec.eq_of_toNat_eq (by omega))).1 h1
/-- The sum of the bytes, and that of the bytes with a sign. -/
def su (l : List By) : Int := l.foldl (fun n x => n + (x.toNat : Int)) 0
def sx (x : By) : Int := if x.toNat < 128 then (x.toNat : Int) else (x.toNat : Int) - 256
def ss (l : List By) : Int := l.foldl (fun n x => n + sx x) 0
theorem su_snoc (l : List By) (x : By) : su (l ++ [x]) = su l + (x.toNat : Int) := by unfold su; rw [List.foldl_append]; rfl
theorem ss_snoc (l : List By) (x : By) : ss (l ++ [x]) = ss l + sx x := by unfold ss; rw [List.foldl_append]; rfl
theorem su_take (l : List By) (I : Nat) (h : I < l.length) : su (l.take (I + 1)) = su (l.take I) + (l[I].toNat : Int) := by rw [take_snoc l I h, su_snoc]
theorem ss_take (l : List By) (I : Nat) (h : I < l.length) : ss (l.take (I + 1)) = ss (l.take I) + sx l[I] := by rw [take_snoc l I h, ss_snoc]
/-- The sum's field taken for blanks. -/
def blk (b : List By) : List By := b.take 148 ++ (List.replicate 8 32#8 ++ b.drop 156)
theorem blk_length (b : List By) (h : b.length = 512) : (blk b).length = 512 := by
  unfold blk
  rw [List.length_append, List.length_append, List.length_take, List.length_replicate, List.length_drop, h]
  decide
theorem rec_heap (w : World) (b : List By) : (w.alloc (.cells (rc b) 36)).heap[w.heap.size]? = some (.cells (rc b) 36) := newHeap _ _
set_option maxRecDepth 100000 in
/-- A text copied into a record. -/
theorem copy_rec (w : World) (g o n c : Nat) (b : List By) (s : ByteArray) (hg : w.heap[g]? = some (.cells (rc b) 36)) (hs : s.size ≤ n) (ho : o + s.size ≤ b.length) :
    (∀ ty, (cpyT #[23, 9] ty #[.slice (some ⟨g, o, none⟩) n c, .string s]).run Tryd.prog w = .ok (.int .i64 (s.size : Int)) (w.setRow g (rc (b.take o ++ (bys' s ++ b.drop (o + s.size)))))) := by
  intro ty
  obtain ⟨i, hi, hz, hsz, hby⟩ := infoB
  have hrun := Lib.run_copy_row_string (P := Tryd.prog) w 23 9 ty 5 g o n c s (rc b) 36 Tryd.underlying23 (by rw [hi]; simp [hsz]) hg hs (by rw [rc_size]; exact ho)
  have ec : ((rc b).toList.take o ++ Lib.byteCells s.data.toList ++ (rc b).toList.drop (o + s.size)).toArray = rc (b.take o ++ (bys' s ++ b.drop (o + s.size))) := by
    unfold rc
    congr 1
    rw [List.map_append, List.map_append, List.map_take, List.map_drop, List.append_assoc]
    congr 2
    unfold Lib.byteCells bys'
    rw [List.map_map]
    apply List.map_congr_left
    intro u _
    have h := u.toNat_lt
    simp only [Function.comp, bv, BitVec.toNat_ofNat]
    rw [Nat.mod_eq_of_lt (by omega)]
  rw [ec] at hrun
  exact hrun
set_option maxRecDepth 100000 in
theorem run_index_rec (w : World) (D : Array Value) (I : Nat) (v : Value) (hI : I < 512) (h : D[I]? = some v) : (Instr.index 36 (.agg D) (.int .i64 (I : Int))).run Tryd.prog w = .ok v w := by
  obtain ⟨i, hi, hz, hsz, hby⟩ := infoB
  have h0 : (0 : Int) ≤ (I : Int) ∧ (I : Int) < ((512 : Nat) : Int) := by omega
  simp [Instr.index, run_underlying Tryd.underlying36, sizeOf, typeInfo, hi, hsz, part, asIntOf]
  rw [if_pos (by omega), h]
  rfl
theorem bl8_bys : bys' bl8 = List.replicate 8 32#8 := by decide
section
attribute [local go_sem ↓] cpyT_fold
end
end Go.Proofs.YtffhpoilifgcdaaDoor

import Derived.Test.YtoegbaenheeogaaNfM
import Derived.Test.YtoegbaenheeogaaNfN
import Derived.Test.YtoegbaenheeogaaNfE
import Derived.Deep.RegionWith
namespace Go.Proofs.Ytoegbaenheeogaa
open Go.RowKit
set_option linter.unusedVariables false
/-! ### Records -/
/-- A record's cells. -/
def rc (b : List By) : Array Value := (b.map bv).toArray
theorem rc_size (b : List By) : (rc b).size = b.length := by unfold rc; simp
theorem rc_one (b : List By) : (rc b).all (·.oneCell') = true := by
  rw [Array.all_eq_true_iff_forall_mem]
  intro v hv
  unfold rc at hv
  rw [List.mem_toArray] at hv
  exact bv_one b v hv
theorem rc_info (b : List By) (h : b.length = 512) : (Try.prog.info? 24).map (·.size) = some (rc b).size := by rw [rc_size, h]; kernel_rfl
theorem rc_at (b : List By) (I : Nat) (h : I < b.length) : (rc b)[I]? = some (.int .u8 b[I].toNat) := by
  unfold rc
  simp [h]
theorem rc_inj (a b : List By) (h : rc a = rc b) : a = b := by
  unfold rc at h
  have h1 : a.map bv = b.map bv := by simpa using h
  exact (List.map_inj_right (fun x y hxy => by
    injection hxy with _ hxy
    exact BitVec.eq_of_toNat_eq (by omega))).1 h1
/-- The sum of the bytes, and that of the bytes with a sign. -/
def su (l : List By) : Int := l.foldl (fun n x => n + (x.toNat : Int)) 0
def sx (x : By) : Int := if x.toNat < 128 then (x.toNat : Int) else (x.toNat : Int) - 256
def ss (l : List By) : Int := l.foldl (fun n x => n + sx x) 0
theorem su_snoc (l : List By) (x : By) : su (l ++ [x]) = su l + (x.toNat : Int) := by unfold su; rw [List.foldl_append]; rfl
theorem ss_snoc (l : List By) (x : By) : ss (l ++ [x]) = ss l + sx x := by unfold ss; rw [List.foldl_append]; rfl
theorem su_take (l : List By) (I : Nat) (h : I < l.length) : su (l.take (I + 1)) = su (l.take I) + (l[I].toNat : Int) := by rw [take_snoc l I h, su_snoc]
theorem ss_take (l : List By) (I : Nat) (h : I < l.length) : ss (l.take (I + 1)) = ss (l.take I) + sx l[I] := by rw [take_snoc l I h, ss_snoc]
/-- The sum's field taken for blanks. -/
def blk (b : List By) : List By := b.take 148 ++ (List.replicate 8 32#8 ++ b.drop 156)
theorem blk_length (b : List By) (h : b.length = 512) : (blk b).length = 512 := by
  unfold blk
  rw [List.length_append, List.length_append, List.length_take, List.length_replicate, List.length_drop, h]
  decide
theorem rec_heap (w : World) (b : List By) : (w.alloc (.cells (rc b) 24)).heap[w.heap.size]? = some (.cells (rc b) 24) := newHeap _ _
set_option maxRecDepth 100000 in
/-- A text copied into a record. -/
theorem copy_rec (w : World) (g o n c : Nat) (b : List By) (s : ByteArray) (hg : w.heap[g]? = some (.cells (rc b) 24)) (hs : s.size ≤ n) (ho : o + s.size ≤ b.length) :
    (∀ ty, (cpyT #[52, 9] ty #[.slice (some ⟨g, o, none⟩) n c, .string s]).run Try.prog w = .ok (.int .i64 (s.size : Int)) (w.setRow g (rc (b.take o ++ (bys' s ++ b.drop (o + s.size)))))) := by
  intro ty
  obtain ⟨i, hi, hz, hsz, hby⟩ := infoB
  have hrun := Lib.run_copy_row_string (P := Try.prog) w 52 9 ty 5 g o n c s (rc b) 24 Try.underlying52 (by rw [hi]; simp [hsz]) hg hs (by rw [rc_size]; exact ho)
  have ec : ((rc b).toList.take o ++ Lib.byteCells s.data.toList ++ (rc b).toList.drop (o + s.size)).toArray = rc (b.take o ++ (bys' s ++ b.drop (o + s.size))) := by
    unfold rc
    congr 1
    rw [List.map_append, List.map_append, List.map_take, List.map_drop, List.append_assoc]
    congr 2
    unfold Lib.byteCells bys'
    rw [List.map_map]
    apply List.map_congr_left
    intro u _
    have h := u.toNat_lt
    simp only [Function.comp, bv, BitVec.toNat_ofNat]
    rw [Nat.mod_eq_of_lt (by omega)]
  rw [ec] at hrun
  exact hrun
set_option maxRecDepth 100000 in
theorem run_index_rec (w : World) (D : Array Value) (I : Nat) (v : Value) (hI : I < 512) (h : D[I]? = some v) : (Instr.index 24 (.agg D) (.int .i64 (I : Int))).run Try.prog w = .ok v w := by
  obtain ⟨i, hi, hz, hsz, hby⟩ := infoB
  have h0 : (0 : Int) ≤ (I : Int) ∧ (I : Int) < ((512 : Nat) : Int) := by omega
  simp [Instr.index, run_underlying Try.underlying24, sizeOf, typeInfo, hi, hsz, part, asIntOf]
  rw [if_pos (by omega), h]
  rfl
theorem bl8_bys : bys' bl8 = List.replicate 8 32#8 := by decide
section
attribute [local go_sem ↓] cpyT_fold
set_option maxHeartbeats 8000000 in
set_option maxRecDepth 100000 in
theorem sums_any (b : List By) (hb : b.length = 512) (w : World) :
    Calls Try.prog 40 #[.agg (rc b)] w fun e w' => e = .returned (.tuple #[.int .i64 (su (blk b)), .int .i64 (ss (blk b))]) ∧ Nw w w' := by
  obtain ⟨P, hP⟩ : ∃ P : Ending → World → Prop, P = fun e w' => e = .returned (.tuple #[.int .i64 (su (blk b)), .int .i64 (ss (blk b))]) ∧ Nw w w' := ⟨_, rfl⟩
  rw [← hP]
  have HF : Hid (∀ W, Nw w W → P (.returned (.tuple #[.int .i64 (su (blk b)), .int .i64 (ss (blk b))])) W) := fun W hW => by rw [hP]; exact ⟨rfl, hW⟩
  clear hP
  obtain ⟨W1, hW1⟩ : ∃ W1, w.alloc (.cells (rc b) 24) = W1 := ⟨_, rfl⟩
  have h1 : W1.drew.heap[w.heap.size]? = some (.cells (rc b) 24) := by rw [← hW1]; exact rec_heap w b
  have hcp := copy_rec W1.drew w.heap.size 148 8 364 b bl8 h1 (by decide) (by rw [hb]; decide)
  have e8 : bl8.size = 8 := rfl
  rw [bl8_bys, e8] at hcp
  obtain ⟨W2, hW2⟩ : ∃ W2, W1.drew.setRow w.heap.size (rc (blk b)) = W2 := ⟨_, rfl⟩
  have hcp2 : ∀ ty, (cpyT #[52, 9] ty #[.slice (some ⟨w.heap.size, 148, none⟩) 8 364, .string bl8]).run Try.prog W1.drew = .ok (.int .i64 8) W2 := by rw [← hW2]; exact hcp
  have h2 : W2.heap[w.heap.size]? = some (.cells (rc (blk b)) 24) := by rw [← hW2]; exact setRow_heap _ _ _ _ 24 _ h1
  have n2 : Nw w W2 := by
    rw [← hW2, ← hW1]
    exact (((Fr.refl _ _).alloc _).drew).setRow _ _ (.inr (Nat.le_refl _))
  have HR := tHid (fun V => repeat8 V)
  have H2 := tHid h2
  have HN := tHid n2
  have HLN := tHid (blk_length b hb)
  have HI := tHid (rc_info (blk b) (blk_length b hb))
  have HLC := tHid (rc_at (blk b))
  clear h1 hcp h2 n2 hW2 hb e8
  generalize blk b = q at *
  generalize hC : rc b = C at *
  go_enter Try.func40, Try.ntmps40
  go_upto_region 1 with fail
  go_region_with (first | (go_at_call 65; with_reducible refine (HR.out _).mono ?_; rintro e w1 ⟨rfl, rfl⟩))
  go_upto_region 4 with (first
    | (refine wpList_load_row rfl 24 _ rfl w.heap.size (by first | rfl | simp [Act.eval]) 24 _ (0, 0) _ H2.out Try.underlying24 rfl HI.out ?_))
  obtain ⟨D, hD⟩ : ∃ D, rc q = D := ⟨_, rfl⟩
  rw [hD] at HLC ⊢
  clear hD HI H2 HR hcp2 hC hW1
  go_loopg [4, 5, 12] 512 (fun kx v4 v5 v12 wr => ∃ (I : Nat) (A B : Int), I ≤ 512 ∧ 512 ≤ I + kx ∧ v12 = .int .i64 I ∧ v4 = .int .i64 A ∧ v5 = .int .i64 B ∧ 0 ≤ A ∧ A ≤ 255 * I ∧ -128 * I ≤ B ∧ B ≤ 127 * I ∧ wr = W2 ∧ Hid (A = su (q.take I) ∧ B = ss (q.take I)))
  case atStart => exact ⟨0, 0, 0, by omega, by omega, rfl, rfl, rfl, by omega, by omega, by omega, by omega, rfl, rfl, rfl⟩
  case round =>
    obtain ⟨I, A, B, hI, hkx, rfl, rfl, rfl, a1, a2, b1, b2, rfl, HS⟩ := hrel
    obtain ⟨eA, eB⟩ := HS.out
    have hq := HLN.out
    by_cases hlt : I < 512
    · have hlt' : I < q.length := by omega
      have hat := run_index_rec wr D I _ hlt (HLC.out I hlt')
      have s1 := su_take q I hlt'
      have s2 := ss_take q I hlt'
      rw [← eA] at s1
      rw [← eB] at s2
      have hx := q[I].isLt
      have hsx : sx q[I] = if q[I].toNat < 128 then (q[I].toNat : Int) else (q[I].toNat : Int) - 256 := rfl
      obtain ⟨A2, hA2⟩ : ∃ A2, A + (q[I].toNat : Int) = A2 := ⟨_, rfl⟩
      obtain ⟨B2, hB2⟩ : ∃ B2, B + sx q[I] = B2 := ⟨_, rfl⟩
      rw [hA2] at s1
      rw [hB2] at s2
      have HS2 : Hid (A2 = su (q.take (I + 1)) ∧ B2 = ss (q.take (I + 1))) := ⟨s1.symm, s2.symm⟩
      generalize sx q[I] = y at *
      have hy : -128 ≤ y ∧ y ≤ 127 := by split at hsx <;> omega
      generalize hxx : q[I].toNat = x at *
      have hw8 : IntKind.i8.wrap (x : Int) = y := by
        rw [hsx]; unfold IntKind.wrap; simp [IntKind.bits, IntKind.signed]; split <;> omega
      have c1 : 0 ≤ A2 := by omega
      have c2 : A2 ≤ 255 * ((I + 1 : Nat) : Int) := by omega
      have c3 : -128 * ((I + 1 : Nat) : Int) ≤ B2 := by omega
      have c4 : B2 ≤ 127 * ((I + 1 : Nat) : Int) := by omega
      clear HF HN HLN HLC HS eA eB hq s1 s2 hsx hxx
      obtain ⟨hy1, hy2⟩ := hy
      go_wp2_with fail
      go_roundg (512 - (I + 1))
      case measure => omega
      case rel => exact ⟨I + 1, A2, B2, by omega, by omega, by first | rfl | (congr 1), rfl, rfl, c1, c2, c3, c4, rfl, HS2⟩
    · obtain rfl : I = 512 := by omega
      rw [List.take_of_length_le (by omega)] at eA eB
      have HF2 := tHid (HF.out wr HN.out)
      rw [← eA, ← eB] at HF2
      clear HF HN HLN HLC HS eA eB hq
      go_wp2_with fail
      exact HF2.out
end
end Go.Proofs.Ytoegbaenheeogaa

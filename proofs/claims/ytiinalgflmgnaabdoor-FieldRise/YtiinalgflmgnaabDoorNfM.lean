import Derived.Test.YtiinalgflmgnaabDoorNfK
import Derived.Test.YtiinalgflmgnaabDoorNfL
import Derived.Test.YtiinalgflmgnaabDoorXxZ
import Derived.Lib.BufferWrite
namespace Go.Proofs.YtiinalgflmgnaabDoor
open Go.RowKit
set_option linter.unusedVariables false
/-- PutNumber. -/
def pnE (n d : Int) : Nat := if poE n d = 0 then 0 else pbE n d
def pnL (n d : Int) : List By := if poE n d = 0 then poL n d else pbL n d
/-! ### PutText -/
/-- A string's bytes. -/
def bys' (s : ByteArray) : List By := s.data.toList.map (fun u => BitVec.ofNat 8 u.toNat)
theorem bys_len (s : ByteArray) : (bys' s).length = s.size := by unfold bys'; rw [List.length_map]; rfl
theorem u8_of (u : UInt8) : u8 (BitVec.ofNat 8 u.toNat) = u := by
  have h := u.toNat_lt
  unfold u8
  rw [BitVec.toNat_ofNat, Nat.mod_eq_of_lt (by omega)]
  simp
theorem str_bys (s : ByteArray) : str (bys' s) = s := by
  apply ByteArray.ext
  unfold str bys'
  rw [List.map_map]
  have : (u8 ∘ fun u : UInt8 => BitVec.ofNat 8 u.toNat) = id := by funext u; exact u8_of u
  rw [this, List.map_id]
theorem bys_str (l : List By) : bys' (str l) = l := by
  have h : str (bys' (str l)) = str l := str_bys _
  exact str_inj.1 h
def noZ (s : ByteArray) : Bool := decide (¬ 0 ≤ Lib.indexByte s.data.toList 0)
def pxE (s : ByteArray) (d : Int) : Nat := if 1 ≤ d ∧ d ≤ 512 ∧ noZ s = true then (if (s.size : Int) ≤ d then 0 else 122) else 1
def pxL (s : ByteArray) (d : Int) : List By := bys' s ++ List.replicate (d.toNat - s.size) 0#8
/-- copy, folded behind a name. -/
def cpyT (tys : Array TypeId) (ty : TypeId) (args : Array Value) : Sem Value := Builtin.copy_ tys ty args
theorem cpyT_fold (tys : Array TypeId) (ty : TypeId) (args : Array Value) : Builtin.copy_ tys ty args = cpyT tys ty args := rfl
theorem copy_str (w : World) (g k : Nat) (s : ByteArray) (hs : s.size ≤ k) (hk : k ≤ 1000000) (hO : Ow g (.slice (some ⟨g, 0, none⟩) k k) (List.replicate k 0#8) w) :
    ∃ W, (∀ ty, (cpyT #[23, 9] ty #[.slice (some ⟨g, 0, none⟩) k k, .string s]).run Tryd.prog w = .ok (.int .i64 (s.size : Int)) W) ∧ Ow g (.slice (some ⟨g, 0, none⟩) k k) (bys' s ++ List.replicate (k - s.size) 0#8) W ∧ Fr (fun i => i = g) w W := by
  obtain ⟨xs, e, h2, h3, h4, h5⟩ := hO
  obtain ⟨i, hi, hz, hsz, hby⟩ := infoB
  have hxl : xs.length = k := by injection e with _ _ ec; exact ec.symm
  have hx : xs = List.replicate k 0#8 := by
    rw [List.length_replicate, List.take_of_length_le (by omega)] at h2; exact h2
  have hrun := fun ty => Lib.run_copy_row_string (P := Tryd.prog) w 23 9 ty 5 g 0 k k s (xs.map bv).toArray 5 Tryd.underlying23 (by rw [hi]; simp [hsz]) h5 hs (by simp; omega)
  refine ⟨_, hrun, ?_, (Fr.refl _ _).setRow _ _ (.inl rfl)⟩
  have ec : ((xs.map bv).toArray.toList.take 0 ++ Lib.byteCells s.data.toList ++ (xs.map bv).toArray.toList.drop (0 + s.size)).toArray = ((bys' s ++ List.replicate (k - s.size) 0#8).map bv).toArray := by
    congr 1
    rw [List.take_zero, List.nil_append, List.map_append, Nat.zero_add, hx]
    congr 1
    · unfold Lib.byteCells bys'
      rw [List.map_map]
      apply List.map_congr_left
      intro u _
      have h := u.toNat_lt
      simp only [Function.comp, bv, BitVec.toNat_ofNat]
      rw [Nat.mod_eq_of_lt (by omega)]
    · simp
  rw [ec]
  have hln : (bys' s ++ List.replicate (k - s.size) 0#8).length = k := by rw [List.length_append, bys_len, List.length_replicate]; omega
  refine ⟨_, ?_, ?_, ?_, ?_, setRow_heap w g _ _ 5 _ h5⟩
  · rw [hln]
  · rw [List.take_of_length_le (Nat.le_refl _)]
  · exact Nat.le_refl _
  · rw [hln]; omega
section
attribute [local go_sem ↓] cpyT_fold
end
end Go.Proofs.YtiinalgflmgnaabDoor

import Derived.Test.YtenkchhlaphocaaGreatDoorNjP
import Derived.Lib.AppendStr
namespace Go.Proofs.YtenkchhlaphocaaGreatDoor
open Go.RowKit
set_option linter.unusedVariables false
section
variable {w : World}
/-- A string's bytes. -/
def bys (s : ByteArray) : List By := s.data.toList.map (fun x => BitVec.ofNat 8 x.toNat)
theorem bys_length (s : ByteArray) : (bys s).length = s.size := by
  unfold bys
  rw [List.length_map]
  rfl
theorem strCells_bys (s : ByteArray) : Lib.strCells s = (bys s).map bv := by
  unfold Lib.strCells bys bv
  rw [List.map_map]
  apply List.map_congr_left
  intro x _
  have := x.toNat_lt
  simp only [Function.comp, BitVec.toNat_ofNat]
  congr 1
  omega
set_option maxRecDepth 100000 in
theorem app_str (w : World) (g : Nat) (v : Value) (l : List By) (hO : Ow g v l w) (s : ByteArray) (hb : l.length + s.size ≤ 200000000000000) :
    ∃ v' g' W, (∀ ty, (Builtin.append_ #[32, 9] ty #[v, .string s]).run Tryz.prog w = .ok v' W) ∧ Ow g' v' (l ++ bys s) W ∧ Fr (fun k => k = g) w W ∧ (g' = g ∨ w.heap.size ≤ g') := by
  obtain ⟨xs, rfl, h2, h3, h4, h5⟩ := hO
  obtain ⟨i, hi, hz, hs, hby⟩ := infoB
  have hlen := bys_length s
  by_cases hroom : l.length + s.size ≤ xs.length
  · have hrun := fun ty => Lib.run_append_room_string (P := Tryz.prog) w 32 9 ty 5 i Tryz.underlying32 Tryz.underlying9 hi hs g l.length xs.length (xs.map bv).toArray h5 s hroom (by simpa using hroom)
    refine ⟨_, g, _, hrun, ?_, (Fr.refl _ _).setRow _ _ (.inl rfl), .inl rfl⟩
    have e : ((xs.map bv).toArray.toList.take l.length ++ Lib.strCells s ++ (xs.map bv).toArray.toList.drop (l.length + s.size)).toArray = ((l ++ bys s ++ xs.drop (l.length + s.size)).map bv).toArray := by
      rw [strCells_bys]
      simp only [List.map_append]
      rw [← List.map_take, ← List.map_drop, h2]
    rw [e]
    refine ⟨l ++ bys s ++ xs.drop (l.length + s.size), ?_, ?_, ?_, ?_, ?_⟩
    · simp [hlen]; omega
    · rw [List.take_append_of_le_length (by simp), List.take_of_length_le (by simp)]
    · simp
    · simp [hlen]; omega
    · exact setRow_heap w g _ _ 5 _ h5
  · have hrun := fun ty => Lib.run_append_grow_string (P := Tryz.prog) w 32 9 ty 5 i _ Tryz.underlying32 Tryz.underlying9 hi hz ⟨g, 0, none⟩ l.length xs.length (l.map bv) (by rw [hs]; simp) (fun j u hj => by
      rw [add_addr]
      simp only [List.getElem?_map, Option.map_eq_some_iff] at hj
      obtain ⟨b, hb, rfl⟩ := hj
      have hr := h5.rd.take l.length
      rw [h2] at hr
      exact hr.at j b hb) s (by omega) (by omega) (by rw [hby]; exact growslice_fits_wide (by omega) (by omega))
    have hge := grownCap_ge w (l.length + s.size) xs.length 5
    have hle := grownCap_le_maxLen w (l.length + s.size) xs.length 5 (by unfold maxLen; omega)
    unfold maxLen at hle
    generalize grownCap w (l.length + s.size) xs.length 5 = G at *
    refine ⟨_, w.heap.size, _, hrun, ?_, (Fr.refl _ _).drew.alloc _, .inr (Nat.le_refl _)⟩
    have e : ((l.map bv).toArray ++ (Lib.strCells s).toArray ++ Builtin.zeroCells (Value.int .u8 0).cells (G - (l.length + s.size))) = ((l ++ bys s ++ List.replicate (G - (l.length + s.size)) 0#8).map bv).toArray := by
      rw [zeroB, strCells_bys]; simp
    rw [e]
    refine ⟨l ++ bys s ++ List.replicate (G - (l.length + s.size)) 0#8, ?_, ?_, ?_, ?_, ?_⟩
    · simp [hlen]; omega
    · rw [List.take_append_of_le_length (by simp), List.take_of_length_le (by simp)]
    · simp
    · simp [hlen]; omega
    · show (w.drew.heap.push _)[w.heap.size]? = _
      show (w.heap.push _)[w.heap.size]? = _
      simp
end
theorem bys_str (m : Bs) : bys (str m) = m := by
  unfold bys
  rw [str_data, List.map_map]
  conv => rhs; rw [← List.map_id m]
  apply List.map_congr_left
  intro x _
  simp only [Function.comp, u8_nat, id]
  apply BitVec.eq_of_toNat_eq
  rw [BitVec.toNat_ofNat]
  have := x.isLt
  omega
/-! ### A list of pairs written over -/
theorem set_two {β : Type} (L : List β) (i : Nat) (a b : β) (h : i + 1 < L.length) : (L.set i a).set (i + 1) b = L.take i ++ [a, b] ++ L.drop (i + 2) := by
  apply List.ext_getElem?
  intro m
  rw [List.getElem?_set, List.getElem?_set, List.length_set]
  by_cases h1 : i + 1 = m
  · subst h1
    rw [if_pos rfl, if_pos h, List.append_assoc, List.getElem?_append_right (by rw [List.length_take]; omega), List.length_take, Nat.min_eq_left (by omega), show i + 1 - i = 1 by omega]
    rfl
  · rw [if_neg h1]
    by_cases h2 : i = m
    · subst h2
      rw [if_pos rfl, if_pos (by omega), List.append_assoc, List.getElem?_append_right (by rw [List.length_take]; omega), List.length_take, Nat.min_eq_left (by omega), Nat.sub_self]
      rfl
    · rw [if_neg h2]
      by_cases h3 : m < i
      · rw [List.append_assoc, List.getElem?_append_left (by rw [List.length_take]; omega), List.getElem?_take, if_pos h3]
      · rw [List.getElem?_append_right (by rw [List.length_append, List.length_take]; simp; omega), List.getElem?_drop]
        congr 1
        rw [List.length_append, List.length_take, Nat.min_eq_left (by omega)]
        simp
        omega
theorem OwR.setP {g : Nat} {v : Value} {l : List Pr} {W : World} (h : OwR RP g v l W) (I : Nat) (hI : I < l.length) (x : Pr) : OwR RP g v (l.set I x) ((W.setCell ⟨g, I * 2, none⟩ (.string (str x.1))).setCell ⟨g, I * 2 + 1, none⟩ (.string (str x.2))) := by
  obtain ⟨xs, h1, h2, h3, h4, h5⟩ := h
  refine ⟨xs.set I x, ?_, ?_, ?_, ?_, ?_⟩
  · rw [List.length_set, List.length_set]; exact h1
  · rw [List.length_set, List.take_set, h2]
  · rw [List.length_set, List.length_set]; exact h3
  · rw [List.length_set]; exact h4
  · have hl := flatR_length rpOk xs
    have hk : RP.k = 2 := rfl
    rw [hk] at hl
    unfold SwR at h5 ⊢
    rw [flatR_set rpOk xs I x (by omega), hk, show (I + 1) * 2 = I * 2 + 2 by omega]
    simp only [World.setCell, Array.getElem?_modify, h5]
    have := set_two (flatR RP xs) (I * 2) (.string (str x.1)) (.string (str x.2)) (by omega)
    have he : RP.enc x = [.string (str x.1), .string (str x.2)] := rfl
    rw [he]
    simp only [if_true, Option.map_some]
    congr 2
    apply Array.ext'
    show (((flatR RP xs).toArray.setIfInBounds (I * 2) (.string (str x.1))).setIfInBounds (I * 2 + 1) (.string (str x.2))).toList = _
    rw [Array.toList_setIfInBounds, Array.toList_setIfInBounds]
    exact this
/-- The words that are written over. -/
def WO : Pr := ([119#8, 114#8, 105#8, 116#8, 116#8, 101#8, 110#8], [111#8, 118#8, 101#8, 114#8])
def GR : Pr := ([103#8, 114#8, 111#8, 119#8, 110#8], [])
def WiI (og : Option Nat) (v : Value) (n : Nat) (w V : World) : Prop := ∃ l', l'.length = n ∧ OgR RP og v l' V ∧ Fr (fun k => og = some k) w V
end Go.Proofs.YtenkchhlaphocaaGreatDoor

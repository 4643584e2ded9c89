import Derived.Test.YtenkchhlaphocaaDoorNjP
import Derived.Lib.AppendStr
namespace Go.Proofs.YtenkchhlaphocaaDoor
open Go.RowKit
set_option linter.unusedVariables false
section
variable {w : World}
/-- A string's bytes. -/
def bys (s : ByteArray) : List By := s.data.toList.map (fun x => BitVec.ofNat 8 x.toNat)
theorem bys_length (s : ByteArray) : (bys s).length = s.size := by
  unfold bys
  rw [List.length_map]
  rfl
theorem strCells_bys (s : ByteArray) : Lib.strCells s = (bys s).map bv := by
  unfold Lib.strCells bys bv
  rw [List.map_map]
  apply List.map_congr_left
  intro x _
  have := x.toNat_lt
  simp only [Function.comp, BitVec.toNat_ofNat]
  congr 1
  omega
set_option maxRecDepth 100000 in
theorem app_str (w : World) (g : Nat) (v : Value) (l : List By) (hO : Ow g v l w) (s : ByteArray) (hb : l.length + s.size ≤ 200000000000000) :
    ∃ v' g' W, (∀ ty, (Builtin.append_ #[24, 9] ty #[v, .string s]).run Tryd.prog w = .ok v' W) ∧ Ow g' v' (l ++ bys s) W ∧ Fr (fun k => k = g) w W ∧ (g' = g ∨ w.heap.size ≤ g') := by
  obtain ⟨xs, rfl, h2, h3, h4, h5⟩ := hO
  obtain ⟨i, hi, hz, hs, hby⟩ := infoB
  have hlen := bys_length s
  by_cases hroom : l.length + s.size ≤ xs.length
  · have hrun := fun ty => Lib.run_append_room_string (P := Tryd.prog) w 24 9 ty 5 i Tryd.underlying24 Tryd.underlying9 hi hs g l.length xs.length (xs.map bv).toArray h5 s hroom (by simpa using hroom)
    refine ⟨_, g, _, hrun, ?_, (Fr.refl _ _).setRow _ _ (.inl rfl), .inl rfl⟩
    have e : ((xs.map bv).toArray.toList.take l.length ++ Lib.strCells s ++ (xs.map bv).toArray.toList.drop (l.length + s.size)).toArray = ((l ++ bys s ++ xs.drop (l.length + s.size)).map bv).toArray := by
      rw [strCells_bys]
      simp only [List.map_append]
      rw [← List.map_take, ← List.map_drop, h2]
    rw [e]
    refine ⟨l ++ bys s ++ xs.drop (l.length + s.size), ?_, ?_, ?_, ?_, ?_⟩
    · simp [hlen]; omega
    · rw [List.take_append_of_le_length (by simp), List.take_of_length_le (by simp)]
    · simp
    · simp [hlen]; omega
    · exact setRow_heap w g _ _ 5 _ h5
  · have hrun := fun ty => Lib.run_append_grow_string (P := Tryd.prog) w 24 9 ty 5 i _ Tryd.underlying24 Tryd.underlying9 hi hz ⟨g, 0, none⟩ l.length xs.length (l.map bv) (by rw [hs]; simp) (fun j u hj => by
      rw [add_addr]
      simp only [List.getElem?_map, Option.map_eq_some_iff] at hj
      obtain ⟨b, hb, rfl⟩ := hj
      have hr := h5.rd.take l.length
      rw [h2] at hr
      exact hr.at j b hb) s (by omega) (by omega) (by rw [hby]; exact growslice_fits_wide (by omega) (by omega))
    have hge := grownCap_ge w (l.length + s.size) xs.length 5
    have hle := grownCap_le_maxLen w (l.length + s.size) xs.length 5 (by unfold maxLen; omega)
    unfold maxLen at hle
    generalize grownCap w (l.length + s.size) xs.length 5 = G at *
    refine ⟨_, w.heap.size, _, hrun, ?_, (Fr.refl _ _).drew.alloc _, .inr (Nat.le_refl _)⟩
    have e : ((l.map bv).toArray ++ (Lib.strCells s).toArray ++ Builtin.zeroCells (Value.int .u8 0).cells (G - (l.length + s.size))) = ((l ++ bys s ++ List.replicate (G - (l.length + s.size)) 0#8).map bv).toArray := by
      rw [zeroB, strCells_bys]; simp
    rw [e]
    refine ⟨l ++ bys s ++ List.replicate (G - (l.length + s.size)) 0#8, ?_, ?_, ?_, ?_, ?_⟩
    · simp [hlen]; omega
    · rw [List.take_append_of_le_length (by simp), List.take_of_length_le (by simp)]
    · simp
    · simp [hlen]; omega
    · show (w.drew.heap.push _)[w.heap.size]? = _
      show (w.heap.push _)[w.heap.size]? = _
      simp
end
theorem bys_str (m : Bs) : bys (str m) = m := by
  unfold bys
  rw [str_data, List.map_map]
  conv => rhs; rw [← List.map_id m]
  apply List.map_congr_left
  intro x _
  simp only [Function.comp, u8_nat, id]
  apply BitVec.eq_of_toNat_eq
  rw [BitVec.toNat_ofNat]
  have := x.isLt
  omega
/-! ### A list of pairs written over -/
theorem set_two {β : Type} (L : List β) (i : Nat) (a b : β) (h : i + 1 < L.length) : (L.set i a).set (i + 1) b = L.take i ++ [a, b] ++ L.drop (i + 2) := by
  apply List.ext_getElem?
  intro m
  rw [List.getElem?_set, List.getElem?_set, List.length_set]
  by_cases h1 : i + 1 = m
  · subst h1
    rw [if_pos rfl, if_pos h, List.append_assoc, List.getElem?_append_right (by rw [List.length_take]; omega), List.length_take, Nat.min_eq_left (by omega), show i + 1 - i = 1 by omega]
    rfl
  · rw [if_neg h1]
    by_cases h2 : i = m
    · subst h2
      rw [if_pos rfl, if_pos (by omega), List.append_assoc, List.getElem?_append_right (by rw [List.length_take]; omega), List.length_take, Nat.min_eq_left (by omega), Nat.sub_self]
      rfl
    · rw [if_neg h2]
      by_cases h3 : m < i
      · rw [List.append_assoc, List.getElem?_append_left (by rw [List.length_take]; omega), List.getElem?_take, if_pos h3]
      · rw [List.getElem?_append_right (by rw [List.length_append, List.length_take]; simp; omega), List.getElem?_drop]
        congr 1
        rw [List.length_append, List.length_take, Nat.min_eq_left (by omega)]
        simp
        omega
theorem OwR.setP {g : Nat} {v : Value} {l : List Pr} {W : World} (h : OwR RP g v l W) (I : Nat) (hI : I < l.length) (x : Pr) : OwR RP g v (l.set I x) ((W.setCell ⟨g, I * 2, none⟩ (.string (str x.1))).setCell ⟨g, I * 2 + 1, none⟩ (.string (str x.2))) := by
  obtain ⟨xs, h1, h2, h3, h4, h5⟩ := h
  refine ⟨xs.set I x, ?_, ?_, ?_, ?_, ?_⟩
  · rw [List.length_set, List.length_set]; exact h1
  · rw [List.length_set, List.take_set, h2]
  · rw [List.length_set, List.length_set]; exact h3
  · rw [List.length_set]; exact h4
  · have hl := flatR_length rpOk xs
    have hk : RP.k = 2 := rfl
    rw [hk] at hl
    unfold SwR at h5 ⊢
    rw [flatR_set rpOk xs I x (by omega), hk, show (I + 1) * 2 = I * 2 + 2 by omega]
    simp only [World.setCell, Array.getElem?_modify, h5]
    have := set_two (flatR RP xs) (I * 2) (.string (str x.1)) (.string (str x.2)) (by omega)
    have he : RP.enc x = [.string (str x.1), .string (str x.2)] := rfl
    rw [he]
    simp only [if_true, Option.map_some]
    congr 2
    apply Array.ext'
    show (((flatR RP xs).toArray.setIfInBounds (I * 2) (.string (str x.1))).setIfInBounds (I * 2 + 1) (.string (str x.2))).toList = _
    rw [Array.toList_setIfInBounds, Array.toList_setIfInBounds]
    exact this
/-- The words that are written over. -/
def WO : Pr := ([119#8, 114#8, 105#8, 116#8, 116#8, 101#8, 110#8], [111#8, 118#8, 101#8, 114#8])
def GR : Pr := ([103#8, 114#8, 111#8, 119#8, 110#8], [])
def WiI (og : Option Nat) (v : Value) (n : Nat) (w V : World) : Prop := ∃ l', l'.length = n ∧ OgR RP og v l' V ∧ Fr (fun k => og = some k) w V
set_option maxHeartbeats 8000000 in
set_option maxRecDepth 100000 in
theorem wiped_any (w : World) (og : Option Nat) (v vb : Value) (l m : List Pr) (h : OgR RP og v l w) (hn : l.length ≤ 1000000000) (hm : SlR RP (fun k => og = some k) vb m w) :
    Calls Tryd.prog 10 #[v, vb] w fun e w' => e = .returned (.bool (decide (l = m))) ∧ Fr (fun k => og = some k) w w' := by
  obtain ⟨P, hP⟩ : ∃ P : Ending → World → Prop, P = fun e w' => e = .returned (.bool (decide (l = m))) ∧ Fr (fun k => og = some k) w w' := ⟨_, rfl⟩
  rw [← hP]
  have HF : Hid (∀ V, Fr (fun k => og = some k) w V → P (.returned (.bool (decide (l = m)))) V) := fun V hV => by rw [hP]; exact ⟨rfl, hV⟩
  clear hP
  have HC := tHid (same_any w v vb l m (h.slr rpOk) hm)
  obtain ⟨a, c, rfl, k1, k2⟩ := h.form
  obtain ⟨n, hln⟩ : ∃ n, l.length = n := ⟨_, rfl⟩
  have H0 : Hid (∀ V, Nw w V → WiI og (.slice a n c) n w V) := fun V hV => ⟨l, hln, by rw [← hln]; exact h.nw hV, hV.any⟩
  rw [hln] at HC k1 hn ⊢
  clear h hm hln
  generalize decide (l = m) = B at *
  go_enter Tryd.func10, Tryd.ntmps10
  go_upto_region 2 with (first
    | (go_at_call 26; with_reducible refine HC.out.mono ?_; rintro e w1 ⟨rfl, H1⟩; have H1 := tHid H1))
  have HW := tHid (H0.out w1 H1.out)
  clear H0 H1 HC
  go_upto_region 3 with fail
  go_loopg [6] n (fun kx i wr => ∃ I : Nat, I ≤ n ∧ n - I ≤ kx ∧ i = .int .i64 I ∧ Hid (WiI og (.slice a n c) n w wr))
  case atStart => exact ⟨0, by omega, by omega, rfl, HW⟩
  case round =>
    obtain ⟨I, hI, hkx, rfl, HI⟩ := hrel
    obtain ⟨l', hl', hO, hF⟩ := HI.out
    by_cases hlt : I < n
    · cases og with
      | none =>
        obtain ⟨e, e2⟩ := hO
        rw [e2] at hl'
        simp at hl'
        omega
      | some g =>
        have hO2 : OwR RP g (.slice a n c) l' wr := hO
        obtain ⟨xs, e, _⟩ := id hO2
        injection e with ea en ec
        subst ea
        have hlt' : I < l'.length := by omega
        obtain ⟨c0, f0⟩ := hO2.cell rpOk I 0 _ _ (List.getElem?_eq_getElem hlt') rfl
        obtain ⟨c1, f1⟩ := hO2.cell rpOk I 1 _ _ (List.getElem?_eq_getElem hlt') rfl
        rw [show RP.k = 2 from rfl] at c0 f0 c1 f1
        rw [Nat.add_zero] at c0 f0
        have hset := hO2.setP I hlt' WO
        obtain ⟨U1, hU1⟩ : ∃ U1, wr.setCell ⟨g, I * 2, none⟩ (.string (str WO.1)) = U1 := ⟨_, rfl⟩
        obtain ⟨U2, hU2⟩ : ∃ U2, U1.setCell ⟨g, I * 2 + 1, none⟩ (.string (str WO.2)) = U2 := ⟨_, rfl⟩
        have hF2 : Fr (fun k => some g = some k) w U2 := by
          rw [← hU2, ← hU1]
          exact (hF.setCell _ _ (.inl rfl)).setCell _ _ (.inl rfl)
        have d1 : U1.cell? ⟨g, I * 2 + 1, none⟩ = wr.cell? ⟨g, I * 2 + 1, none⟩ := by rw [← hU1]; exact World.cell?_setCell_other _ _ _ _ (fun e => by have := congrArg Addr.off e; simp at this)
        have d2 : U1.frozen? ⟨g, I * 2 + 1, none⟩ = wr.frozen? ⟨g, I * 2 + 1, none⟩ := by rw [← hU1]; exact World.frozen?_setCell _ _ _ _
        rw [c1] at d1
        rw [f1] at d2
        generalize str (l'[I]'hlt').1 = y1 at *
        generalize str (l'[I]'hlt').2 = y2 at *
        rw [hU1, hU2] at hset
        have HW2 : Hid (WiI (some g) (.slice (some ⟨g, 0, none⟩) n c) n w U2) := ⟨l'.set I WO, by rw [List.length_set]; exact hl', hset, hF2⟩
        have hU1' : wr.setCell ⟨g, I * 2, none⟩ (.string ⟨#[119, 114, 105, 116, 116, 101, 110]⟩) = U1 := hU1
        have hU2' : U1.setCell ⟨g, I * 2 + 1, none⟩ (.string ⟨#[111, 118, 101, 114]⟩) = U2 := hU2
        clear HF HW HI hO hO2 hF hF2 hset hU1 hU2 hl' hlt'
        go_wp2_with fail
        go_roundg (n - (I + 1))
        case measure => omega
        case rel => exact ⟨I + 1, by omega, by omega, by first | rfl | (congr 1), HW2⟩
    · obtain ⟨og', v', W, HA, k2, k3, k4⟩ := pushP wr og _ l' hO (by omega) GR
      have hg : prC GR = #[.string ⟨#[103, 114, 111, 119, 110]⟩, .string ⟨#[]⟩] := rfl
      rw [hg] at HA
      have HF2 := tHid (HF.out W (hF.trans k3))
      obtain rfl : I = n := by omega
      clear HF HW HI hO hF k2 k3 k4 hg hl'
      go_wp2_with (first
        | (at_builtin; refine Lib.wpList_append_run _ rfl _ _ 22 22 rfl (.slice a I c) (.slice (some ⟨wr.heap.size, 0, none⟩) 1 1) (by first | rfl | simp [Act.eval]) (by first | rfl | simp [Act.eval]) _ _ (HA.out _) ?_))
      first | exact HF2.out | (go_ret; exact HF2.out)
end Go.Proofs.YtenkchhlaphocaaDoor

import Derived.Test.YtpjnbhflnbhnoaaGreatDoorWam
import Derived.Test.YtpjnbhflnbhnoaaGreatDoorWan
import Derived.Lib.AppendStr
namespace Go.Proofs.YtpjnbhflnbhnoaaGreatDoor
open Go.RowKit
set_option linter.unusedVariables false
variable {w : World}
/-- A string's bytes. -/
def bys (s : ByteArray) : List By := s.data.toList.map (fun x => BitVec.ofNat 8 x.toNat)
theorem bys_length (s : ByteArray) : (bys s).length = s.size := by
  unfold bys
  rw [List.length_map]
  rfl
theorem strCells_bys (s : ByteArray) : Lib.strCells s = (bys s).map bv := by
  unfold Lib.strCells bys bv
  rw [List.map_map]
  apply List.map_congr_left
  intro x _
  have := x.toNat_lt
  simp only [Function.comp, BitVec.toNat_ofNat]
  congr 1
  omega
set_option maxRecDepth 100000 in
theorem app_str (w : World) (g : Nat) (v : Value) (l : List By) (hO : Ow g v l w) (s : ByteArray) (hb : l.length + s.size ≤ 200000000000000) :
    ∃ v' g' W, (∀ ty, (Builtin.append_ #[22, 9] ty #[v, .string s]).run Tryz.prog w = .ok v' W) ∧ Ow g' v' (l ++ bys s) W ∧ Fr (fun k => k = g) w W ∧ (g' = g ∨ w.heap.size ≤ g') := by
  obtain ⟨xs, rfl, h2, h3, h4, h5⟩ := hO
  obtain ⟨i, hi, hz, hs, hby⟩ := infoB
  have hlen := bys_length s
  by_cases hroom : l.length + s.size ≤ xs.length
  · have hrun := fun ty => Lib.run_append_room_string (P := Tryz.prog) w 22 9 ty 5 i Tryz.underlying22 Tryz.underlying9 hi hs g l.length xs.length (xs.map bv).toArray h5 s hroom (by simpa using hroom)
    refine ⟨_, g, _, hrun, ?_, (Fr.refl _ _).setRow _ _ (.inl rfl), .inl rfl⟩
    have e : ((xs.map bv).toArray.toList.take l.length ++ Lib.strCells s ++ (xs.map bv).toArray.toList.drop (l.length + s.size)).toArray = ((l ++ bys s ++ xs.drop (l.length + s.size)).map bv).toArray := by
      rw [strCells_bys]
      simp only [List.map_append]
      rw [← List.map_take, ← List.map_drop, h2]
    rw [e]
    refine ⟨l ++ bys s ++ xs.drop (l.length + s.size), ?_, ?_, ?_, ?_, ?_⟩
    · simp [hlen]; omega
    · rw [List.take_append_of_le_length (by simp), List.take_of_length_le (by simp)]
    · simp
    · simp [hlen]; omega
    · exact setRow_heap w g _ _ 5 _ h5
  · have hrun := fun ty => Lib.run_append_grow_string (P := Tryz.prog) w 22 9 ty 5 i _ Tryz.underlying22 Tryz.underlying9 hi hz ⟨g, 0, none⟩ l.length xs.length (l.map bv) (by rw [hs]; simp) (fun j u hj => by
      rw [add_addr]
      simp only [List.getElem?_map, Option.map_eq_some_iff] at hj
      obtain ⟨b, hb, rfl⟩ := hj
      have hr := h5.rd.take l.length
      rw [h2] at hr
      exact hr.at j b hb) s (by omega) (by omega) (by rw [hby]; exact growslice_fits_wide (by omega) (by omega))
    have hge := grownCap_ge w (l.length + s.size) xs.length 5
    have hle := grownCap_le_maxLen w (l.length + s.size) xs.length 5 (by unfold maxLen; omega)
    unfold maxLen at hle
    generalize grownCap w (l.length + s.size) xs.length 5 = G at *
    refine ⟨_, w.heap.size, _, hrun, ?_, (Fr.refl _ _).drew.alloc _, .inr (Nat.le_refl _)⟩
    have e : ((l.map bv).toArray ++ (Lib.strCells s).toArray ++ Builtin.zeroCells (Value.int .u8 0).cells (G - (l.length + s.size))) = ((l ++ bys s ++ List.replicate (G - (l.length + s.size)) 0#8).map bv).toArray := by
      rw [zeroB, strCells_bys]; simp
    rw [e]
    refine ⟨l ++ bys s ++ List.replicate (G - (l.length + s.size)) 0#8, ?_, ?_, ?_, ?_, ?_⟩
    · simp [hlen]; omega
    · rw [List.take_append_of_le_length (by simp), List.take_of_length_le (by simp)]
    · simp
    · simp [hlen]; omega
    · show (w.drew.heap.push _)[w.heap.size]? = _
      show (w.heap.push _)[w.heap.size]? = _
      simp
/-- A text of a head. -/
def txt (s : ByteArray) : List By := if s.size = 0 then [] else bys s ++ [0#8]
theorem txt_length (s : ByteArray) : (txt s).length ≤ s.size + 1 := by
  unfold txt
  split
  · simp
  · rw [List.length_append, bys_length]; simp
theorem nil_eq (s : ByteArray) : (s.toList == ([] : List UInt8)) = decide (s.size = 0) := by
  rw [ByteArray.toList_eq]
  by_cases h : s.size = 0
  · rw [decide_eq_true h]
    have : s.data.toList = [] := List.eq_nil_of_length_eq_zero h
    rw [this]; rfl
  · rw [decide_eq_false h]
    rw [beq_eq_false_iff_ne]
    intro e
    apply h
    show s.data.toList.length = 0
    rw [e]; rfl
set_option maxHeartbeats 4000000 in
set_option maxRecDepth 100000 in
theorem putText_any (w : World) (g : Nat) (v : Value) (l : List By) (hO : Ow g v l w) (s : ByteArray) (hb : l.length + s.size ≤ 100000000000000) :
    Calls Tryz.prog 32 #[v, .string s] w fun e w' => ∃ v' g', e = .returned v' ∧ Ow g' v' (l ++ txt s) w' ∧ Fr (fun k => k = g) w w' ∧ (g' = g ∨ w.heap.size ≤ g') := by
  obtain ⟨P, hP⟩ : ∃ P : Ending → World → Prop, P = fun e w' => ∃ v' g', e = .returned v' ∧ Ow g' v' (l ++ txt s) w' ∧ Fr (fun k => k = g) w w' ∧ (g' = g ∨ w.heap.size ≤ g') := ⟨_, rfl⟩
  rw [← hP]
  have hn := nil_eq s
  by_cases h0 : s.size = 0
  · rw [decide_eq_true h0] at hn
    have HF : Hid (P (.returned v) w) := by
      show P _ _
      rw [hP]
      exact ⟨v, g, rfl, by unfold txt; rw [if_pos h0, List.append_nil]; exact hO, Fr.refl _ _, .inl rfl⟩
    obtain ⟨xs, rfl, _⟩ := hO
    clear hP
    generalize xs.length = X at *
    generalize l.length = N at *
    go_enter Tryz.func32, Tryz.ntmps32
    go_wp2
    exact HF.out
  · rw [decide_eq_false h0] at hn
    obtain ⟨v1, g1, W1, hap1, hO1, hF1, hg1⟩ := app_str w g v l hO s (by omega)
    have hN2 : Nw W1 (W1.alloc (.cells #[.int .u8 0] 5)) := (Fr.refl _ _).alloc _
    have hB2 : Bw W1.heap.size [0#8] (W1.alloc (.cells #[.int .u8 0] 5)) := by
      show (W1.heap.push _)[W1.heap.size]? = _
      rw [Array.getElem?_push_size]; rfl
    have hO2 : Ow W1.heap.size (.slice (some ⟨W1.heap.size, 0, none⟩) 1 1) [0#8] (W1.alloc (.cells #[.int .u8 0] 5)) := ⟨[0#8], rfl, rfl, by decide, by decide, hB2⟩
    have hll : (l ++ bys s).length = l.length + s.size := by rw [List.length_append, bys_length]
    obtain ⟨v3, g3, W3, hap3, hO3, hF3, hg3⟩ := app_any _ g1 v1 _ (hO1.nw hN2) _ [0#8] (.inr ⟨_, fun h => h, hO2.slb⟩) (by rw [hll]; simp; omega)
    have HF : Hid (P (.returned v3) W3) := by
      show P _ _
      rw [hP]
      have s1 := hF1.size
      have s2 := hN2.size
      have hg1' : g1 = g ∨ w.heap.size ≤ g1 := hg1
      refine ⟨v3, g3, rfl, by unfold txt; rw [if_neg h0, ← List.append_assoc]; exact hO3, (hF1.trans hN2.any).then hF3 (fun i hi => ?_), ?_⟩
      · rcases hg1' with e | e
        · exact .inl (by omega)
        · exact .inr (by omega)
      · rcases hg3 with e | e
        · rcases hg1' with e' | e'
          · exact .inl (by omega)
          · exact .inr (by omega)
        · exact .inr (by omega)
    have HAP1 : Hid (∀ ty, (Builtin.append_ #[22, 9] ty #[v, .string s]).run Tryz.prog w = .ok v1 W1) := hap1
    have HAP3 : Hid (∀ ty, (Builtin.append_ #[22, 22] ty #[v1, .slice (some ⟨W1.heap.size, 0, none⟩) 1 1]).run Tryz.prog (W1.alloc (.cells #[.int .u8 0] 5)) = .ok v3 W3) := hap3
    obtain ⟨xs, rfl, _⟩ := hO
    obtain ⟨ys, rfl, _⟩ := hO1
    obtain ⟨zs, rfl, _⟩ := hO3
    clear hP hap1 hap3 hF1 hg1 hN2 hB2 hO2 hF3 hg3 hll
    generalize (l ++ bys s ++ [0#8]).length = N3 at *
    generalize (l ++ bys s).length = N1 at *
    generalize xs.length = X at *
    generalize ys.length = Y at *
    generalize zs.length = Z at *
    generalize l.length = N at *
    go_enter Tryz.func32, Tryz.ntmps32
    go_wp2_with (first
      | (at_builtin; refine Lib.wpList_append_run _ rfl _ _ 22 9 rfl (.slice (some ⟨g, 0, none⟩) N X) (.string s) (by simp [Act.eval]) (by simp [Act.eval]) _ _ (HAP1.out _) ?_)
      | (at_builtin; refine Lib.wpList_append_run _ rfl _ _ 22 22 rfl (.slice (some ⟨g1, 0, none⟩) N1 Y) (.slice (some ⟨W1.heap.size, 0, none⟩) 1 1) (by simp [Act.eval]) (by simp [Act.eval]) _ _ (HAP3.out _) ?_))
    exact HF.out
end Go.Proofs.YtpjnbhflnbhnoaaGreatDoor

namespace Go.Proofs.YtpjnbhflnbhnoaaGreatDoor
open Go.RowKit
set_option linter.unusedVariables false
variable {w : World}
/-- What a member says, in memory. -/
structure Mb where
  nm : ByteArray
  cm : ByteArray
  xa : Option Addr
  xc : Nat
  ex : List By
  tm : Nat
  fl : By
  sy : By
  tx : Bool
  sm : Bool
def Mb.row (m : Mb) : Array Value := #[.string m.nm, .string m.cm, .slice m.xa m.ex.length m.xc, .int .u32 m.tm, .int .u8 m.fl.toNat, .int .u8 m.sy.toNat, .bool m.tx, .bool m.sm]
def bit (b : Bool) (n : Nat) : Nat := if b then n else 0
/-- The flags. -/
def flg (b1 b2 b3 b4 b5 : Bool) : Nat := bit b1 1 + bit b2 2 + bit b3 4 + bit b4 8 + bit b5 16
def Mb.flags (m : Mb) : Nat := flg m.tx m.sm (decide (0 < m.ex.length)) (!decide (m.nm.size = 0)) (!decide (m.cm.size = 0))
def flK (b1 b2 b3 b4 b5 : Bool) : Nat → Nat
  | 0 => 0
  | 1 => bit b1 1
  | 2 => bit b1 1 + bit b2 2
  | 3 => bit b1 1 + bit b2 2 + bit b3 4
  | 4 => bit b1 1 + bit b2 2 + bit b3 4 + bit b4 8
  | _ => flg b1 b2 b3 b4 b5
theorem bit_le (b : Bool) (n : Nat) : bit b n ≤ n := by cases b <;> simp [bit]
theorem or_bits : (∀ n : Fin 1, bits .or .u8 (n.val : Int) 1 = ((n.val + 1 : Nat) : Int)) ∧ (∀ n : Fin 2, bits .or .u8 (n.val : Int) 2 = ((n.val + 2 : Nat) : Int)) ∧ (∀ n : Fin 4, bits .or .u8 (n.val : Int) 4 = ((n.val + 4 : Nat) : Int)) ∧ (∀ n : Fin 8, bits .or .u8 (n.val : Int) 8 = ((n.val + 8 : Nat) : Int)) ∧ (∀ n : Fin 16, bits .or .u8 (n.val : Int) 16 = ((n.val + 16 : Nat) : Int)) := by decide +kernel
set_option maxHeartbeats 8000000 in
set_option maxRecDepth 100000 in
theorem flagsOf_any (w : World) (m : Mb) : Calls Tryz.prog 30 #[.agg m.row] w fun e w' => e = .returned (.int .u8 (m.flags : Nat)) ∧ Nw w w' := by
  obtain ⟨P, hP⟩ : ∃ P : Ending → World → Prop, P = fun e w' => e = .returned (.int .u8 (m.flags : Nat)) ∧ Nw w w' := ⟨_, rfl⟩
  rw [← hP]
  have HF : Hid (∀ V, Nw w V → P (.returned (.int .u8 (m.flags : Nat))) V) := fun V hV => by rw [hP]; exact ⟨rfl, hV⟩
  clear hP
  have h4 := nil_eq m.nm
  have h5 := nil_eq m.cm
  unfold Mb.flags at HF
  unfold Mb.row
  obtain ⟨nm, cm, xa, xc, ex, tm, fl, sy, tx, sm⟩ := m
  simp only at HF h4 h5 ⊢
  obtain ⟨B4, hB4⟩ : ∃ B4, B4 = decide (nm.size = 0) := ⟨_, rfl⟩
  obtain ⟨B5, hB5⟩ : ∃ B5, B5 = decide (cm.size = 0) := ⟨_, rfl⟩
  rw [← hB4] at HF h4
  rw [← hB5] at HF h5
  clear hB4 hB5
  generalize ex.length = N at *
  generalize fl.toNat = F at *
  generalize sy.toNat = S at *
  go_enter Tryz.func30, Tryz.ntmps30
  obtain ⟨b3, hb3⟩ : ∃ b3, b3 = decide (0 < N) := ⟨_, rfl⟩
  obtain ⟨b4, hb4⟩ : ∃ b4, b4 = !B4 := ⟨_, rfl⟩
  obtain ⟨b5, hb5⟩ : ∃ b5, b5 = !B5 := ⟨_, rfl⟩
  rw [← hb3, ← hb4, ← hb5] at HF
  go_wp2_with fail
  rw [← hb3, ← hb4, ← hb5]
  obtain ⟨W1, hW1⟩ : ∃ W1, W1 = (w.alloc (Obj.cells #[Value.string nm, Value.string cm, Value.slice xa N xc, Value.int IntKind.u32 ↑tm, Value.int IntKind.u8 ↑F, Value.int IntKind.u8 ↑S, Value.bool tx, Value.bool sm] 25)) := ⟨_, rfl⟩
  rw [← hW1]
  have hs1 : W1.heap.size = w.heap.size + 1 := by rw [hW1]; simp
  have n1 : Nw w W1 := by rw [hW1]; exact (Fr.refl _ _).alloc _
  obtain ⟨W2, hW2⟩ : ∃ W2, W2 = W1.alloc (Obj.cells #[Value.int IntKind.u8 1, Value.bool tx, Value.int IntKind.u8 2, Value.bool sm, Value.int IntKind.u8 4, Value.bool b3, Value.int IntKind.u8 8, Value.bool b4, Value.int IntKind.u8 16, Value.bool b5] 73) := ⟨_, rfl⟩
  rw [← hW2]
  have row : W2.heap[w.heap.size + 1]? = some (Obj.cells #[Value.int IntKind.u8 1, Value.bool tx, Value.int IntKind.u8 2, Value.bool sm, Value.int IntKind.u8 4, Value.bool b3, Value.int IntKind.u8 8, Value.bool b4, Value.int IntKind.u8 16, Value.bool b5] 73) := by rw [hW2, ← hs1]; exact new_heap _ _
  have n2 : Nw w W2 := n1.trans (by rw [hW2]; exact (Fr.refl _ _).alloc _)
  have HN : Hid (Nw w W2) := n2
  have HR : Hid (W2.heap[w.heap.size + 1]? = some (Obj.cells #[Value.int IntKind.u8 1, Value.bool tx, Value.int IntKind.u8 2, Value.bool sm, Value.int IntKind.u8 4, Value.bool b3, Value.int IntKind.u8 8, Value.bool b4, Value.int IntKind.u8 16, Value.bool b5] 73)) := row
  clear hW1 hW2 n1 n2 row hs1 h4 h5 hb3 hb4 hb5
  generalize w.heap.size + 1 = fb at *
  go_loopg [3, 5, 27] 5 (fun kx v3 v5 v27 wr => ∃ (k : Nat), k ≤ 5 ∧ 5 - k ≤ kx ∧ v3 = .int .u8 (flK tx sm b3 b4 b5 k : Nat) ∧ v27 = .int .i64 k ∧ Hid (Nw W2 wr))
  case atStart => exact ⟨0, by omega, by omega, rfl, rfl, Fr.refl _ _⟩
  case round =>
    obtain ⟨k, hk, hkx, rfl, rfl, HI⟩ := hrel
    have hrw := HI.out.heap HR.out
    have l1 := bit_le tx 1
    have l2 := bit_le sm 2
    have l3 := bit_le b3 4
    have l4 := bit_le b4 8
    by_cases hlt : k < 5
    · rcases (show k = 0 ∨ k = 1 ∨ k = 2 ∨ k = 3 ∨ k = 4 by omega) with rfl | rfl | rfl | rfl | rfl
      · have c0 := (row_cell hrw 0 _ rfl).1
        have c1 := (row_cell hrw 1 _ rfl).1
        have HNX : Hid (∀ V, Nw wr V → Nw W2 V) := fun V hV => HI.out.trans hV
        obtain ⟨r, hr⟩ : ∃ r, r = flK tx sm b3 b4 b5 0 := ⟨_, rfl⟩
        have hrl : r < 1 := by rw [hr]; simp only [flK]; omega
        have e1 : bits .or .u8 (r : Int) 1 = ((r + 1 : Nat) : Int) := or_bits.1 ⟨r, hrl⟩
        obtain ⟨r2, hr2⟩ : ∃ r2, r2 = r + 1 := ⟨_, rfl⟩
        rw [← hr2] at e1
        have HE1 : Hid (tx = true → flK tx sm b3 b4 b5 1 = r2) := fun e => by rw [hr2, hr, e]; first | rfl | simp [flK, flg, bit]
        have HE2 : Hid (tx = false → flK tx sm b3 b4 b5 1 = r) := fun e => by rw [hr, e]; first | rfl | simp [flK, flg, bit]
        rw [← hr]
        clear HI HR HN HF hrw hr hr2 hrl l1 l2 l3 l4
        cases tx
        · go_wp2_with fail
          go_roundg (5 - 1)
          all_goals (first | omega | exact ⟨1, by omega, by omega, by rw [HE2.out (by simp)], rfl, HNX.out _ (((Fr.refl _ _).alloc _))⟩)
        · go_wp2_with fail
          go_roundg (5 - 1)
          all_goals (first | omega | exact ⟨1, by omega, by omega, by rw [HE1.out (by simp)], rfl, HNX.out _ (((Fr.refl _ _).alloc _))⟩)
      · have c0 := (row_cell hrw 2 _ rfl).1
        have c1 := (row_cell hrw 3 _ rfl).1
        have HNX : Hid (∀ V, Nw wr V → Nw W2 V) := fun V hV => HI.out.trans hV
        obtain ⟨r, hr⟩ : ∃ r, r = flK tx sm b3 b4 b5 1 := ⟨_, rfl⟩
        have hrl : r < 2 := by rw [hr]; simp only [flK]; omega
        have e1 : bits .or .u8 (r : Int) 2 = ((r + 2 : Nat) : Int) := or_bits.2.1 ⟨r, hrl⟩
        obtain ⟨r2, hr2⟩ : ∃ r2, r2 = r + 2 := ⟨_, rfl⟩
        rw [← hr2] at e1
        have HE1 : Hid (sm = true → flK tx sm b3 b4 b5 2 = r2) := fun e => by rw [hr2, hr, e]; first | rfl | simp [flK, flg, bit]
        have HE2 : Hid (sm = false → flK tx sm b3 b4 b5 2 = r) := fun e => by rw [hr, e]; first | rfl | simp [flK, flg, bit]
        rw [← hr]
        clear HI HR HN HF hrw hr hr2 hrl l1 l2 l3 l4
        cases sm
        · go_wp2_with fail
          go_roundg (5 - 2)
          all_goals (first | omega | exact ⟨2, by omega, by omega, by rw [HE2.out (by simp)], rfl, HNX.out _ (((Fr.refl _ _).alloc _))⟩)
        · go_wp2_with fail
          go_roundg (5 - 2)
          all_goals (first | omega | exact ⟨2, by omega, by omega, by rw [HE1.out (by simp)], rfl, HNX.out _ (((Fr.refl _ _).alloc _))⟩)
      · have c0 := (row_cell hrw 4 _ rfl).1
        have c1 := (row_cell hrw 5 _ rfl).1
        have HNX : Hid (∀ V, Nw wr V → Nw W2 V) := fun V hV => HI.out.trans hV
        obtain ⟨r, hr⟩ : ∃ r, r = flK tx sm b3 b4 b5 2 := ⟨_, rfl⟩
        have hrl : r < 4 := by rw [hr]; simp only [flK]; omega
        have e1 : bits .or .u8 (r : Int) 4 = ((r + 4 : Nat) : Int) := or_bits.2.2.1 ⟨r, hrl⟩
        obtain ⟨r2, hr2⟩ : ∃ r2, r2 = r + 4 := ⟨_, rfl⟩
        rw [← hr2] at e1
        have HE1 : Hid (b3 = true → flK tx sm b3 b4 b5 3 = r2) := fun e => by rw [hr2, hr, e]; first | rfl | simp [flK, flg, bit]
        have HE2 : Hid (b3 = false → flK tx sm b3 b4 b5 3 = r) := fun e => by rw [hr, e]; first | rfl | simp [flK, flg, bit]
        rw [← hr]
        clear HI HR HN HF hrw hr hr2 hrl l1 l2 l3 l4
        cases b3
        · go_wp2_with fail
          go_roundg (5 - 3)
          all_goals (first | omega | exact ⟨3, by omega, by omega, by rw [HE2.out (by simp)], rfl, HNX.out _ (((Fr.refl _ _).alloc _))⟩)
        · go_wp2_with fail
          go_roundg (5 - 3)
          all_goals (first | omega | exact ⟨3, by omega, by omega, by rw [HE1.out (by simp)], rfl, HNX.out _ (((Fr.refl _ _).alloc _))⟩)
      · have c0 := (row_cell hrw 6 _ rfl).1
        have c1 := (row_cell hrw 7 _ rfl).1
        have HNX : Hid (∀ V, Nw wr V → Nw W2 V) := fun V hV => HI.out.trans hV
        obtain ⟨r, hr⟩ : ∃ r, r = flK tx sm b3 b4 b5 3 := ⟨_, rfl⟩
        have hrl : r < 8 := by rw [hr]; simp only [flK]; omega
        have e1 : bits .or .u8 (r : Int) 8 = ((r + 8 : Nat) : Int) := or_bits.2.2.2.1 ⟨r, hrl⟩
        obtain ⟨r2, hr2⟩ : ∃ r2, r2 = r + 8 := ⟨_, rfl⟩
        rw [← hr2] at e1
        have HE1 : Hid (b4 = true → flK tx sm b3 b4 b5 4 = r2) := fun e => by rw [hr2, hr, e]; first | rfl | simp [flK, flg, bit]
        have HE2 : Hid (b4 = false → flK tx sm b3 b4 b5 4 = r) := fun e => by rw [hr, e]; first | rfl | simp [flK, flg, bit]
        rw [← hr]
        clear HI HR HN HF hrw hr hr2 hrl l1 l2 l3 l4
        cases b4
        · go_wp2_with fail
          go_roundg (5 - 4)
          all_goals (first | omega | exact ⟨4, by omega, by omega, by rw [HE2.out (by simp)], rfl, HNX.out _ (((Fr.refl _ _).alloc _))⟩)
        · go_wp2_with fail
          go_roundg (5 - 4)
          all_goals (first | omega | exact ⟨4, by omega, by omega, by rw [HE1.out (by simp)], rfl, HNX.out _ (((Fr.refl _ _).alloc _))⟩)
      · have c0 := (row_cell hrw 8 _ rfl).1
        have c1 := (row_cell hrw 9 _ rfl).1
        have HNX : Hid (∀ V, Nw wr V → Nw W2 V) := fun V hV => HI.out.trans hV
        obtain ⟨r, hr⟩ : ∃ r, r = flK tx sm b3 b4 b5 4 := ⟨_, rfl⟩
        have hrl : r < 16 := by rw [hr]; simp only [flK]; omega
        have e1 : bits .or .u8 (r : Int) 16 = ((r + 16 : Nat) : Int) := or_bits.2.2.2.2 ⟨r, hrl⟩
        obtain ⟨r2, hr2⟩ : ∃ r2, r2 = r + 16 := ⟨_, rfl⟩
        rw [← hr2] at e1
        have HE1 : Hid (b5 = true → flK tx sm b3 b4 b5 5 = r2) := fun e => by rw [hr2, hr, e]; first | rfl | simp [flK, flg, bit]
        have HE2 : Hid (b5 = false → flK tx sm b3 b4 b5 5 = r) := fun e => by rw [hr, e]; first | rfl | simp [flK, flg, bit]
        rw [← hr]
        clear HI HR HN HF hrw hr hr2 hrl l1 l2 l3 l4
        cases b5
        · go_wp2_with fail
          go_roundg (5 - 5)
          all_goals (first | omega | exact ⟨5, by omega, by omega, by rw [HE2.out (by simp)], rfl, HNX.out _ (((Fr.refl _ _).alloc _))⟩)
        · go_wp2_with fail
          go_roundg (5 - 5)
          all_goals (first | omega | exact ⟨5, by omega, by omega, by rw [HE1.out (by simp)], rfl, HNX.out _ (((Fr.refl _ _).alloc _))⟩)
    · obtain rfl : k = 5 := by omega
      have HF2 : Hid (P (.returned (.int .u8 (flg tx sm b3 b4 b5 : Nat))) wr) := HF.out _ (HN.out.trans HI.out)
      have e : flK tx sm b3 b4 b5 5 = flg tx sm b3 b4 b5 := rfl
      rw [e]
      clear HF HN HR HI hrw e l1 l2 l3 l4
      generalize flg tx sm b3 b4 b5 = r at *
      go_wp2_with fail
      exact HF2.out
end Go.Proofs.YtpjnbhflnbhnoaaGreatDoor

namespace Go.Proofs.YtpjnbhflnbhnoaaGreatDoor
open Go.RowKit
set_option linter.unusedVariables false
variable {w W : World} {a : Option Addr} {n c : Nat} {l : List By}
theorem toHid2 {p : Prop} (h : p) : Hid p := h
/-- Bytes of one's own, made since w. -/
def Hd (w : World) (v : Value) (l : List By) (W : World) : Prop := ∃ g, w.heap.size ≤ g ∧ Ow g v l W ∧ Nw w W
theorem Hd.nw {v : Value} {W' : World} (h : Hd w v l W) (f : Nw W W') : Hd w v l W' := by
  obtain ⟨g, h1, h2, h3⟩ := h
  exact ⟨g, h1, h2.nw f, h3.trans f⟩
theorem hd_put (h : Hd w (.slice a n c) l W) (x k : Nat) (hx : x < 18446744073709551616) (hk : k ≤ 8) (hl : l.length ≤ 100000000000000) (h0 : l ≠ []) :
    Calls Tryz.prog 31 #[.slice a n c, .int .u64 x, .int .i64 k] W fun e W' => ∃ a' n' c', e = .returned (.slice a' n' c') ∧ Hd w (.slice a' n' c') (l ++ lows x k) W' := by
  obtain ⟨g, h1, h2, h3⟩ := h
  have hs := h3.size
  refine (lput_any (fun k => k < w.heap.size) W (fun k hk => by omega) _ l (.inr ⟨g, by omega, h2⟩) x k hx hk (by omega)).mono ?_
  rintro e W' ⟨v', rfl, hM, hF⟩
  obtain ⟨a', c', rfl, _, _⟩ := hM.sl.form
  refine ⟨a', _, c', rfl, ?_⟩
  have hN : Nw w W' := h3.then hF (fun i hi => .inr (by omega))
  rcases hM with ⟨e1, e2⟩ | ⟨g', e1, e2⟩
  · exact absurd (List.append_eq_nil_iff.1 e2).1 h0
  · exact ⟨g', by omega, e2, hN⟩
theorem hd_bytes (h : Hd w (.slice a n c) l W) (x : Value) (m : List By) (hx : Sl (fun _ => False) x m W) (hl : l.length + m.length ≤ 100000000000000) :
    ∃ a' n' c' W', (∀ ty, (Builtin.append_ #[22, 22] ty #[.slice a n c, x]).run Tryz.prog W = .ok (.slice a' n' c') W') ∧ Hd w (.slice a' n' c') (l ++ m) W' := by
  obtain ⟨g, h1, h2, h3⟩ := h
  have hs := h3.size
  obtain ⟨v3, g3, W3, hap3, hO3, hF3, hg3⟩ := app_any W g _ l h2 x m hx (by omega)
  obtain ⟨zs, rfl, _⟩ := id hO3
  exact ⟨_, _, _, W3, hap3, g3, by omega, hO3, h3.then hF3 (fun i hi => .inr (by omega))⟩
theorem hd_text (h : Hd w (.slice a n c) l W) (s : ByteArray) (hl : l.length + s.size ≤ 100000000000000) :
    Calls Tryz.prog 32 #[.slice a n c, .string s] W fun e W' => ∃ a' n' c', e = .returned (.slice a' n' c') ∧ Hd w (.slice a' n' c') (l ++ txt s) W' := by
  obtain ⟨g, h1, h2, h3⟩ := h
  have hs := h3.size
  refine (putText_any W g _ l h2 s hl).mono ?_
  rintro e W' ⟨v', g', rfl, hO, hF, hg⟩
  obtain ⟨zs, rfl, _⟩ := id hO
  exact ⟨_, _, _, rfl, g', by omega, hO, h3.then hF (fun i hi => .inr (by omega))⟩
theorem hd_sum (h : Hd w (.slice a n c) l W) (hT : TabT W) (hl : l.length ≤ 100000000000000) : Calls Tryz.prog 12 #[.slice a n c] W fun e W' => e = .returned (.int .u32 (sumS l : Nat)) ∧ W' = W := by
  obtain ⟨g, h1, h2, h3⟩ := h
  exact zsum_any _ W _ l h2.old hT (by omega)
theorem sumS_lt (l : List By) : sumS l < 4294967296 := by unfold sumS; omega
/-- A head but for its sum, and with it. -/
def Mb.pre (m : Mb) : List By := [31#8, 139#8, 8#8, BitVec.ofNat 8 m.flags] ++ lows m.tm 4 ++ [m.fl, m.sy]
def Mb.ext (m : Mb) : List By := if m.ex.length = 0 then [] else lows m.ex.length 2 ++ m.ex
def Mb.body (m : Mb) : List By := m.pre ++ m.ext ++ txt m.nm ++ txt m.cm
def Mb.head (m : Mb) : List By := if m.sm then m.body ++ lows (sumS m.body) 2 else m.body
def Mb.err (m : Mb) : Nat := if 0 ≤ Lib.indexByte m.nm.data.toList 0 ∨ 0 ≤ Lib.indexByte m.cm.data.toList 0 then 1 else if 65535 < m.nm.size ∨ 65535 < m.cm.size ∨ 65535 < m.ex.length then 2 else 0
theorem Mb.flags_lt (m : Mb) : m.flags < 256 := by
  unfold Mb.flags flg
  have l1 := bit_le m.tx 1
  have l2 := bit_le m.sm 2
  have l3 := bit_le (decide (0 < m.ex.length)) 4
  have l4 := bit_le (!decide (m.nm.size = 0)) 8
  have l5 := bit_le (!decide (m.cm.size = 0)) 16
  omega
theorem Mb.pre_length (m : Mb) : m.pre.length = 10 := by simp [Mb.pre, lows_length]
/-- What Head answers. -/
def HdA (m : Mb) (w : World) (e : Ending) (w' : World) : Prop := ∃ v, e = .returned (.tuple #[v, .int .i64 (m.err : Nat)]) ∧ Nw w w' ∧ (m.err ≠ 0 → v = .slice none 0 0) ∧ (m.err = 0 → ∃ g, w.heap.size ≤ g ∧ Ow g v m.head w')
set_option maxHeartbeats 16000000 in
set_option maxRecDepth 100000 in
theorem zhead_any (w : World) (m : Mb) (hx : Old w (.slice m.xa m.ex.length m.xc) m.ex) (h1 : m.nm.size ≤ 140737488351232) (h2 : m.cm.size ≤ 140737488351232) (h3 : m.tm < 4294967296) (hT : TabT w) :
    Calls Tryz.prog 10 #[.agg m.row] w (HdA m w) := by
  obtain ⟨P, hP⟩ : ∃ P : Ending → World → Prop, P = HdA m w := ⟨_, rfl⟩
  rw [← hP]
  have hexl := hx.length
  obtain ⟨W0, hW0⟩ : ∃ W0, w.alloc (.cells m.row 25) = W0 := ⟨_, rfl⟩
  have row0 : W0.heap[w.heap.size]? = some (.cells m.row 25) := by rw [← hW0]; exact new_heap _ _
  have n0 : Nw w W0 := by rw [← hW0]; exact (Fr.refl _ _).alloc _
  have HC1 : Hid (Calls Tryz.prog 29 #[.string m.nm, .string ⟨#[0]⟩] W0 fun e w' => e = .returned (.bool (decide (0 ≤ Lib.indexByte m.nm.data.toList 0))) ∧ W0 = w') := contains_any m.nm W0 h1
  have HC2 : Hid (Calls Tryz.prog 29 #[.string m.cm, .string ⟨#[0]⟩] W0 fun e w' => e = .returned (.bool (decide (0 ≤ Lib.indexByte m.cm.data.toList 0))) ∧ W0 = w') := contains_any m.cm W0 h2
  by_cases he : m.err = 0
  · have hn1 : ¬ (0 ≤ Lib.indexByte m.nm.data.toList 0 ∨ 0 ≤ Lib.indexByte m.cm.data.toList 0) := fun e => by unfold Mb.err at he; rw [if_pos e] at he; cases he
    have hn2 : ¬ (65535 < m.nm.size ∨ 65535 < m.cm.size ∨ 65535 < m.ex.length) := fun e => by unfold Mb.err at he; rw [if_neg hn1, if_pos e] at he; cases he
    have RC : ∀ V, Nw W0 V → V.heap[w.heap.size]? = some (.cells m.row 25) := fun V hV => hV.heap row0
    have hFin : ∀ a n c V, Hd W0 (.slice a n c) m.head V → P (.returned (.tuple #[.slice a n c, .int .i64 0])) V := fun a n c V hV => by
      obtain ⟨g, g1, g2, g3⟩ := hV
      have hs := n0.size
      rw [hP]
      exact ⟨_, by rw [he]; rfl, n0.trans g3, fun e => absurd he e, fun _ => ⟨g, by omega, g2⟩⟩
    have hbl : m.body.length ≤ 300000 := by
      have t1 := txt_length m.nm
      have t2 := txt_length m.cm
      have t3 : m.ext.length ≤ 2 + m.ex.length := by unfold Mb.ext; split <;> simp [lows_length]
      unfold Mb.body
      simp only [List.length_append, Mb.pre_length]
      omega
    have HTL : Hid (∀ a n c V, Hd W0 (.slice a n c) (m.pre ++ m.ext) V → Calls Tryz.prog 32 #[.slice a n c, .string m.nm] V fun e w5 => ∃ a n c, e = .returned (.slice a n c) ∧ w5.cell? ⟨w.heap.size, 1, none⟩ = some (.string m.cm) ∧ Hid (Calls Tryz.prog 32 #[.slice a n c, .string m.cm] w5 fun e w6 => ∃ a n c, e = .returned (.slice a n c) ∧ w6.cell? ⟨w.heap.size, 7, none⟩ = some (.bool m.sm) ∧ Hid ((m.sm = false → P (.returned (.tuple #[.slice a n c, .int .i64 0])) w6) ∧ (m.sm = true → Calls Tryz.prog 12 #[.slice a n c] w6 fun e w7 => e = .returned (.int .u32 (sumS m.body : Nat)) ∧ w6 = w7 ∧ Hid (Calls Tryz.prog 31 #[.slice a n c, .int .u64 (sumS m.body : Nat), .int .i64 2] w6 fun e w8 => ∃ a n c, e = .returned (.slice a n c) ∧ Hid (P (.returned (.tuple #[.slice a n c, .int .i64 0])) w8)))))) := fun a n c V hV => by
      have hbl' := hbl
      unfold Mb.body at hbl'
      simp only [List.length_append] at hbl'
      refine (hd_text hV m.nm (by rw [List.length_append]; omega)).mono ?_
      rintro e w5 ⟨a5, n5, c5, rfl, h5⟩
      have r5 := RC w5 h5.choose_spec.2.2
      refine ⟨a5, n5, c5, rfl, (row_cell r5 1 _ rfl).1, ?_⟩
      show Calls _ _ _ _ _
      refine (hd_text h5 m.cm (by simp only [List.length_append]; omega)).mono ?_
      rintro e w6 ⟨a6, n6, c6, rfl, h6⟩
      have h6' : Hd W0 (.slice a6 n6 c6) m.body w6 := h6
      have r6 := RC w6 h6.choose_spec.2.2
      have n6w := h6.choose_spec.2.2
      refine ⟨a6, n6, c6, rfl, (row_cell r6 7 _ rfl).1, fun hsm => ?_, fun hsm => ?_⟩
      · exact hFin _ _ _ _ (by unfold Mb.head; rw [hsm]; exact h6')
      · refine (hd_sum h6' ((hT.nw n0).nw n6w) (by omega)).mono ?_
        rintro e w7 ⟨rfl, rfl⟩
        refine ⟨rfl, rfl, ?_⟩
        show Calls _ _ _ _ _
        have hsl := sumS_lt m.body
        refine (hd_put h6' (sumS m.body) 2 (by omega) (by decide) (by omega) (fun e => by have := congrArg List.length e; unfold Mb.body at this; simp [Mb.pre_length] at this)).mono ?_
        rintro e w8 ⟨a8, n8, c8, rfl, h8⟩
        refine ⟨a8, n8, c8, rfl, ?_⟩
        show P _ _
        exact hFin _ _ _ _ (by unfold Mb.head; rw [hsm]; exact h8)
    have HFL : Hid (Calls Tryz.prog 30 #[.agg m.row] W0 fun e w1 => e = .returned (.int .u8 (m.flags : Nat)) ∧ (w1.alloc (.cells #[.int .u8 31, .int .u8 139, .int .u8 8, .int .u8 (m.flags : Nat)] 5)).cell? ⟨w.heap.size, 3, none⟩ = some (.int .u32 m.tm) ∧ Hid (Calls Tryz.prog 31 #[.slice (some ⟨w1.heap.size, 0, none⟩) 4 4, .int .u64 m.tm, .int .i64 4] (w1.alloc (.cells #[.int .u8 31, .int .u8 139, .int .u8 8, .int .u8 (m.flags : Nat)] 5)) fun e w2 => ∃ a n c, e = .returned (.slice a n c) ∧ w2.cell? ⟨w.heap.size, 4, none⟩ = some (.int .u8 m.fl.toNat) ∧ w2.cell? ⟨w.heap.size, 5, none⟩ = some (.int .u8 m.sy.toNat) ∧ ∃ a' n' c' W3, Hid (∀ ty, (Builtin.append_ #[22, 22] ty #[.slice a n c, .slice (some ⟨w2.heap.size, 0, none⟩) 2 2]).run Tryz.prog (w2.alloc (.cells #[.int .u8 m.fl.toNat, .int .u8 m.sy.toNat] 5)) = .ok (.slice a' n' c') W3) ∧ W3.cell? ⟨w.heap.size, 2, none⟩ = some (.slice m.xa m.ex.length m.xc) ∧ W3.cell? ⟨w.heap.size, 0, none⟩ = some (.string m.nm) ∧ Hid (Hd W0 (.slice a' n' c') m.pre W3))) := by
      show Calls _ _ _ _ _
      refine (flagsOf_any W0 m).mono ?_
      rintro e w1 ⟨rfl, hN1⟩
      have hNa : Nw w1 (w1.alloc (.cells #[.int .u8 31, .int .u8 139, .int .u8 8, .int .u8 (m.flags : Nat)] 5)) := (Fr.refl _ _).alloc _
      refine ⟨rfl, (row_cell (RC _ (hN1.trans hNa)) 3 _ rfl).1, ?_⟩
      have hfl := m.flags_lt
      have hB : Bw w1.heap.size [31#8, 139#8, 8#8, BitVec.ofNat 8 m.flags] (w1.alloc (.cells #[.int .u8 31, .int .u8 139, .int .u8 8, .int .u8 (m.flags : Nat)] 5)) := by
        have e1 : (BitVec.ofNat 8 m.flags).toNat = m.flags := by rw [BitVec.toNat_ofNat]; omega
        have := new_heap w1 (.cells #[.int .u8 31, .int .u8 139, .int .u8 8, .int .u8 (m.flags : Nat)] 5)
        unfold Bw
        rw [this]
        simp [bv, e1]
      have hs1 := hN1.size
      have hH : Hd W0 (.slice (some ⟨w1.heap.size, 0, none⟩) 4 4) [31#8, 139#8, 8#8, BitVec.ofNat 8 m.flags] (w1.alloc (.cells #[.int .u8 31, .int .u8 139, .int .u8 8, .int .u8 (m.flags : Nat)] 5)) := ⟨w1.heap.size, hs1, ⟨_, rfl, rfl, by simp, by simp, hB⟩, hN1.trans hNa⟩
      show Calls _ _ _ _ _
      refine (hd_put hH m.tm 4 (by omega) (by decide) (by simp) (by simp)).mono ?_
      rintro e w2 ⟨a2, n2, c2, rfl, h2'⟩
      have hN2 := h2'.choose_spec.2.2
      have r2' := RC w2 hN2
      have hNb : Nw w2 (w2.alloc (.cells #[.int .u8 m.fl.toNat, .int .u8 m.sy.toNat] 5)) := (Fr.refl _ _).alloc _
      have hB2 : Bw w2.heap.size [m.fl, m.sy] (w2.alloc (.cells #[.int .u8 m.fl.toNat, .int .u8 m.sy.toNat] 5)) := by
        have := new_heap w2 (.cells #[.int .u8 m.fl.toNat, .int .u8 m.sy.toNat] 5)
        unfold Bw
        rw [this]
        simp [bv]
      have hO2 : Ow w2.heap.size (.slice (some ⟨w2.heap.size, 0, none⟩) 2 2) [m.fl, m.sy] (w2.alloc (.cells #[.int .u8 m.fl.toNat, .int .u8 m.sy.toNat] 5)) := ⟨_, rfl, rfl, by simp, by simp, hB2⟩
      obtain ⟨a3, n3, c3, W3, hap3, h3'⟩ := hd_bytes (h2'.nw hNb) _ [m.fl, m.sy] (.inr ⟨_, fun h => h, hO2.slb⟩) (by simp [lows_length])
      have r3' := RC W3 h3'.choose_spec.2.2
      exact ⟨a2, n2, c2, rfl, (row_cell r2' 4 _ rfl).1, (row_cell r2' 5 _ rfl).1, a3, n3, c3, W3, hap3, (row_cell r3' 2 _ rfl).1, (row_cell r3' 0 _ rfl).1, h3'⟩
    have HEX : Hid (∀ a n c V, Hd W0 (.slice a n c) m.pre V → 0 < m.ex.length → Calls Tryz.prog 31 #[.slice a n c, .int .u64 m.ex.length, .int .i64 2] V fun e w4 => ∃ a n c, e = .returned (.slice a n c) ∧ w4.cell? ⟨w.heap.size, 2, none⟩ = some (.slice m.xa m.ex.length m.xc) ∧ ∃ a' n' c' W5, Hid (∀ ty, (Builtin.append_ #[22, 22] ty #[.slice a n c, .slice m.xa m.ex.length m.xc]).run Tryz.prog w4 = .ok (.slice a' n' c') W5) ∧ W5.cell? ⟨w.heap.size, 0, none⟩ = some (.string m.nm) ∧ Hid (Hd W0 (.slice a' n' c') (m.pre ++ m.ext) W5)) := fun a n c V hV hlen => by
      have hpl := m.pre_length
      refine (hd_put hV m.ex.length 2 (by omega) (by decide) (by omega) (fun e => by rw [e] at hpl; cases hpl)).mono ?_
      rintro e w4 ⟨a4, n4, c4, rfl, h4⟩
      have hN4 := h4.choose_spec.2.2
      have r4' := RC w4 hN4
      obtain ⟨a5, n5, c5, W5, hap5, h5⟩ := hd_bytes h4 (.slice m.xa m.ex.length m.xc) m.ex ((hx.nw (n0.trans hN4)).mono (fun _ h => h.elim)) (by simp only [List.length_append, lows_length]; omega)
      have r5' := RC W5 h5.choose_spec.2.2
      refine ⟨a4, n4, c4, rfl, (row_cell r4' 2 _ rfl).1, a5, n5, c5, W5, hap5, (row_cell r5' 0 _ rfl).1, ?_⟩
      have e : m.pre ++ m.ext = m.pre ++ lows m.ex.length 2 ++ m.ex := by unfold Mb.ext; rw [if_neg (by omega), List.append_assoc]
      rw [e]; exact h5
    have HNX : Hid (m.ex.length = 0 → m.pre ++ m.ext = m.pre) := fun e => by unfold Mb.ext; rw [if_pos e, List.append_nil]
    have r0 : W0.cell? ⟨w.heap.size, 0, none⟩ = some (.string m.nm) := (row_cell row0 0 _ rfl).1
    have r1 : W0.cell? ⟨w.heap.size, 1, none⟩ = some (.string m.cm) := (row_cell row0 1 _ rfl).1
    have r2 : W0.cell? ⟨w.heap.size, 2, none⟩ = some (.slice m.xa m.ex.length m.xc) := (row_cell row0 2 _ rfl).1
    have r3 : W0.cell? ⟨w.heap.size, 3, none⟩ = some (.int .u32 m.tm) := (row_cell row0 3 _ rfl).1
    have r4 : W0.cell? ⟨w.heap.size, 4, none⟩ = some (.int .u8 m.fl.toNat) := (row_cell row0 4 _ rfl).1
    have r5 : W0.cell? ⟨w.heap.size, 5, none⟩ = some (.int .u8 m.sy.toNat) := (row_cell row0 5 _ rfl).1
    have r6 : W0.cell? ⟨w.heap.size, 6, none⟩ = some (.bool m.tx) := (row_cell row0 6 _ rfl).1
    have r7 : W0.cell? ⟨w.heap.size, 7, none⟩ = some (.bool m.sm) := (row_cell row0 7 _ rfl).1
    have z1 : ¬ (65535 : Int) < (m.nm.size : Int) := by omega
    have z2 : ¬ (65535 : Int) < (m.cm.size : Int) := by omega
    have z3 : ¬ (65535 : Int) < (m.ex.length : Int) := by omega
    have u1 : IntKind.u64.wrap (m.tm : Int) = (m.tm : Int) := by rw [IntKind.wrap_u64]; omega
    have u2 : IntKind.u64.wrap (m.ex.length : Int) = (m.ex.length : Int) := by rw [IntKind.wrap_u64]; omega
    have u3 : IntKind.u64.wrap ((sumS m.body : Nat) : Int) = ((sumS m.body : Nat) : Int) := by have := sumS_lt m.body; rw [IntKind.wrap_u64]; omega
    rw [decide_eq_false (fun e => hn1 (.inl e))] at HC1
    rw [decide_eq_false (fun e => hn1 (.inr e))] at HC2
    have y1 : m.nm.size ≤ 65535 := by omega
    have y2 : m.cm.size ≤ 65535 := by omega
    have y3 : m.ex.length ≤ 65535 := by omega
    have HMR : Hid (m.row = #[.string m.nm, .string m.cm, .slice m.xa m.ex.length m.xc, .int .u32 m.tm, .int .u8 m.fl.toNat, .int .u8 m.sy.toNat, .bool m.tx, .bool m.sm]) := rfl
    rw [HMR.out] at hW0 HFL ⊢
    clear hP hT hx row0 n0 RC hFin hbl hn1 hn2 he HMR hexl h1 h2
    generalize sumS m.body = sb at *
    generalize m.flags = fg at *
    generalize m.ex.length = N at *
    generalize m.fl.toNat = F at *
    generalize m.sy.toNat = S at *
    go_enter Tryz.func10, Tryz.ntmps10
    go_upto_region 8 with (first
      | (go_at_call 29; with_reducible refine HC1.out.mono ?_; rintro e w1 ⟨rfl, rfl⟩)
      | (go_at_call 29; with_reducible refine HC2.out.mono ?_; rintro e w1 ⟨rfl, rfl⟩)
      | (go_at_call 30; with_reducible refine HFL.out.mono ?_; rintro e w1 ⟨rfl, c3, H1⟩)
      | (go_at_call 31; with_reducible refine H1.out.mono ?_; rintro e w2 ⟨a, n, c, rfl, c4, c5, a', n', c', W3, HAP, c2, c0, H3⟩)
      | (at_builtin; refine Lib.wpList_append_run _ rfl _ _ 22 22 rfl (.slice a n c) (.slice (some ⟨w2.heap.size, 0, none⟩) 2 2) (by simp [Act.eval]) (by simp [Act.eval]) _ _ (HAP.out _) ?_))
    clear HC1 HC2 HFL H1 HAP
    by_cases hN : N = 0
    · have HT3 := HTL.out a' n' c' W3 (by rw [HNX.out hN]; exact H3.out)
      have HT4 := toHid2 HT3
      have hz : ¬ (0 : Int) < (N : Int) := by omega
      clear HT3 HTL HEX HNX H3 hN
      cases hsm : m.sm
      all_goals rw [hsm] at HT4
      · go_wp2_with (first
          | (go_at_call 32; with_reducible refine HT4.out.mono ?_; rintro e w5 ⟨a5, n5, c5, rfl, d1, H5⟩)
          | (go_at_call 32; with_reducible refine H5.out.mono ?_; rintro e w6 ⟨a6, n6, c6, rfl, d7, H6⟩))
        all_goals exact H6.out.1 (by simp)
      · go_upto_region 14 with (first
          | (go_at_call 32; with_reducible refine HT4.out.mono ?_; rintro e w5 ⟨a5, n5, c5, rfl, d1, H5⟩)
          | (go_at_call 32; with_reducible refine H5.out.mono ?_; rintro e w6 ⟨a6, n6, c6, rfl, d7, H6⟩))
        all_goals have H7 := toHid2 (H6.out.2 (by simp))
        all_goals go_wp2_with (first
          | (go_at_call 12; with_reducible refine H7.out.mono ?_; rintro e w7 ⟨rfl, rfl, H8⟩)
          | (go_at_call 31; with_reducible refine H8.out.mono ?_; rintro e w8 ⟨a8, n8, c8, rfl, H9⟩))
        all_goals exact H9.out
    · have HX := toHid2 (HEX.out a' n' c' W3 H3.out (by omega))
      have hz : (0 : Int) < (N : Int) := by omega
      clear HEX HNX H3 hN
      go_upto_region 11 with (first
        | (go_at_call 31; with_reducible refine HX.out.mono ?_; rintro e w4 ⟨a4, n4, c4, rfl, e2, a5, n5, c5, W5, HAP5, e0, H5⟩)
        | (at_builtin; refine Lib.wpList_append_run _ rfl _ _ 22 22 rfl (.slice a4 n4 c4) (.slice m.xa N m.xc) (by simp [Act.eval]) (by simp [Act.eval]) _ _ (HAP5.out _) ?_))
      have HT4 := toHid2 (HTL.out a5 n5 c5 W5 H5.out)
      clear HTL HX H5 HAP5
      cases hsm : m.sm
      all_goals rw [hsm] at HT4
      · go_wp2_with (first
          | (go_at_call 32; with_reducible refine HT4.out.mono ?_; rintro e w5 ⟨a5, n5, c5, rfl, d1, H5⟩)
          | (go_at_call 32; with_reducible refine H5.out.mono ?_; rintro e w6 ⟨a6, n6, c6, rfl, d7, H6⟩))
        all_goals exact H6.out.1 (by simp)
      · go_upto_region 14 with (first
          | (go_at_call 32; with_reducible refine HT4.out.mono ?_; rintro e w5 ⟨a5, n5, c5, rfl, d1, H5⟩)
          | (go_at_call 32; with_reducible refine H5.out.mono ?_; rintro e w6 ⟨a6, n6, c6, rfl, d7, H6⟩))
        all_goals have H7 := toHid2 (H6.out.2 (by simp))
        all_goals go_wp2_with (first
          | (go_at_call 12; with_reducible refine H7.out.mono ?_; rintro e w7 ⟨rfl, rfl, H8⟩)
          | (go_at_call 31; with_reducible refine H8.out.mono ?_; rintro e w8 ⟨a8, n8, c8, rfl, H9⟩))
        all_goals exact H9.out
  · have HF : Hid (∀ y : Int, y = (m.err : Nat) → P (.returned (.tuple #[.slice none 0 0, .int .i64 y])) W0) := fun y hy => by
      rw [hP, hy]; exact ⟨_, rfl, n0, fun _ => rfl, fun e => absurd e he⟩
    unfold Mb.err at HF
    have r0 := (row_cell row0 0 _ rfl).1
    have r1 := (row_cell row0 1 _ rfl).1
    have r2 := (row_cell row0 2 _ rfl).1
    unfold Mb.err at he
    clear hP hT hx row0 n0
    unfold Mb.row at *
    obtain ⟨nm, cm, xa, xc, ex, tm, fl, sy, tx, sm⟩ := m
    simp only at *
    generalize Lib.indexByte nm.data.toList 0 = i1 at *
    generalize Lib.indexByte cm.data.toList 0 = i2 at *
    generalize ex.length = N at *
    generalize fl.toNat = F at *
    generalize sy.toNat = S at *
    by_cases q1 : 0 ≤ i1
    · have HF2 := HF.out 1 (by rw [if_pos (.inl q1)]; rfl)
      rw [decide_eq_true q1] at HC1
      clear HF he q1 HC2
      go_enter Tryz.func10, Tryz.ntmps10
      go_wp2_with (first | (go_at_call 29; with_reducible refine HC1.out.mono ?_; rintro e w1 ⟨rfl, rfl⟩))
      exact HF2
    · rw [decide_eq_false q1] at HC1
      by_cases q2 : 0 ≤ i2
      · have HF2 := HF.out 1 (by rw [if_pos (.inr q2)]; rfl)
        rw [decide_eq_true q2] at HC2
        clear HF he q1 q2
        go_enter Tryz.func10, Tryz.ntmps10
        go_wp2_with (first | (go_at_call 29; with_reducible refine HC1.out.mono ?_; rintro e w1 ⟨rfl, rfl⟩) | (go_at_call 29; with_reducible refine HC2.out.mono ?_; rintro e w1 ⟨rfl, rfl⟩))
        exact HF2
      · rw [decide_eq_false q2] at HC2
        rw [if_neg (by omega)] at he
        have q3 : 65535 < nm.size ∨ 65535 < cm.size ∨ 65535 < N := Classical.byContradiction (fun e => he (by rw [if_neg e]))
        have HF2 := HF.out 2 (by rw [if_neg (by omega), if_pos q3]; rfl)
        clear HF he q1 q2
        go_enter Tryz.func10, Tryz.ntmps10
        go_wp2_with (first | (go_at_call 29; with_reducible refine HC1.out.mono ?_; rintro e w1 ⟨rfl, rfl⟩) | (go_at_call 29; with_reducible refine HC2.out.mono ?_; rintro e w1 ⟨rfl, rfl⟩))
        all_goals (first | exact HF2 | (exfalso; omega))
end Go.Proofs.YtpjnbhflnbhnoaaGreatDoor

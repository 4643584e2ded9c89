import Derived.Test.YtoplhkpbicgceaaLzX
namespace Go.Proofs.Ytoplhkpbicgceaa
open Go.RowKit
set_option linter.unusedVariables false
theorem madeB (n : Nat) : (madeCells (Value.int .u8 0).cells n) = ((List.replicate n 0#8).map bv).toArray := by
  apply Array.ext'
  apply List.ext_getElem?
  intro k
  by_cases hk : k < n
  · simp [madeCells, Value.cells, hk, Nat.mod_one]
  · rw [List.getElem?_eq_none (by simp [madeCells, Value.cells]; omega), List.getElem?_eq_none (by simp; omega)]
/-- Room for bytes. -/
theorem make_any (w : World) (n : Nat) (hn : n ≤ 200000000000000) : ∃ W, (Instr.makeSlice 27 (.int .i64 0) (.int .i64 n)).run Try.prog w = .ok (.slice (some ⟨w.heap.size, 0, none⟩) 0 n) W ∧ Ow w.heap.size (.slice (some ⟨w.heap.size, 0, none⟩) 0 n) [] W ∧ Nw w W ∧ W.heap.size = w.heap.size + 1 := by
  obtain ⟨i, hi, hz, hs, hby⟩ := infoB
  have h := run_make (P := Try.prog) w 27 5 i _ Try.underlying27 hi hz .i64 .i64 0 n (Int.le_refl _) (by omega) (by rw [hby]; omega) (by omega)
  simp only [Int.toNat_zero, Int.toNat_natCast, hs, Nat.mul_one, madeB] at h
  refine ⟨_, h, ⟨List.replicate n 0#8, by simp, by simp, by simp, by simp; omega, ?_⟩, (Fr.refl _ _).alloc _, by simp⟩
  exact new_heap _ _
def marks : Nat → List By
  | 0 => []
  | k + 1 => marks k ++ [BitVec.ofNat 8 (171 + k)]
theorem marks_length (k : Nat) : (marks k).length = k := by
  induction k with
  | zero => rfl
  | succ k ih => simp [marks, ih]
theorem marks_at (k j : Nat) (h : j < k) : (marks k)[j]? = some (BitVec.ofNat 8 (171 + j)) := by
  induction k with
  | zero => omega
  | succ k ih =>
    have := marks_length k
    by_cases hj : j < k
    · simp only [marks]
      rw [List.getElem?_append_left (by omega)]; exact ih hj
    · obtain rfl : j = k := by omega
      simp only [marks]
      rw [List.getElem?_append_right (by omega), this]; simp
theorem one_byte' (w : World) (x : By) (z : Int) (hz : z = x.toNat) : Sl (fun _ => False) (.slice (some ⟨w.heap.size, 0, none⟩) 1 1) [x] (w.alloc (.cells #[.int .u8 z] 5)) := by
  subst hz; exact one_byte w x
/-- One byte more, in a block of one's own. -/
theorem own_step (g : Nat) (l : List By) (wr : World) (c : Nat) (h : Ow g (.slice (some ⟨g, 0, none⟩) l.length c) l wr) (hs : l.length ≤ 150000000000000) (x : By) (z : Int) (hz : z = x.toNat) :
    ∃ g' c' W, Hid (∀ ty, (Builtin.append_ #[27, 27] ty #[.slice (some ⟨g, 0, none⟩) l.length c, .slice (some ⟨wr.heap.size, 0, none⟩) 1 1]).run Try.prog (wr.alloc (.cells #[.int .u8 z] 5)) = .ok (.slice (some ⟨g', 0, none⟩) (l.length + 1) c') W) ∧ Hid (Ow g' (.slice (some ⟨g', 0, none⟩) (l.length + 1) c') (l ++ [x]) W ∧ Fr (fun k => k = g) wr W ∧ (g' = g ∨ wr.heap.size ≤ g')) := by
  have hN : Nw wr (wr.alloc (.cells #[.int .u8 z] 5)) := (Fr.refl _ _).alloc _
  obtain ⟨v', g', W, hap, hO, hF, hg⟩ := app_any _ g _ l (h.nw hN) _ _ (one_byte' wr x z hz) (by simp; omega)
  have hO' := hO
  obtain ⟨xs, rfl, _⟩ := hO'
  rw [List.length_append] at hO hap
  refine ⟨g', xs.length, W, hap, hO, hN.any.trans hF, ?_⟩
  rcases hg with h | h
  · exact .inl h
  · exact .inr (by simp at h; omega)
/-- What lent answers. -/
def Lentd (b : List By) (w : World) (e : Ending) (w' : World) : Prop :=
  ∃ g c, e = .returned (.tuple #[.slice (some ⟨g, 0, none⟩) b.length c, .slice (some ⟨g, 0, none⟩) (b.length + 32) c]) ∧ w.heap.size ≤ g ∧ Ow g (.slice (some ⟨g, 0, none⟩) (b.length + 32) c) (b ++ marks 32) w' ∧ Nw w w'
set_option maxHeartbeats 8000000 in
set_option maxRecDepth 100000 in
theorem lent_any (w : World) (vb : Value) (b : List By) (hb : Old w vb b) (hbl : b.length ≤ 140737488351232) : Calls Try.prog 4 #[vb] w (Lentd b w) := by
  obtain ⟨P, hP⟩ : ∃ P, P = Lentd b w := ⟨_, rfl⟩
  rw [← hP]
  have HP : Hid (P = Lentd b w) := hP
  clear hP
  obtain ⟨W1, hmk, hO1, hN1, hs1⟩ := make_any w (b.length + 32) (by omega)
  obtain ⟨v2, g2, W2, hap2, hO2, hF2, hg2⟩ := app_any W1 w.heap.size _ [] hO1 vb b ((hb.nw hN1).mono (fun _ h => h.elim)) (by simp; omega)
  rw [List.nil_append] at hO2
  have hN2 : Nw w W2 := Fr.then hN1 hF2 (fun i hi => .inr (by omega))
  have hg2' : w.heap.size ≤ g2 := by rcases hg2 with h | h <;> omega
  have hO2' := hO2
  obtain ⟨xs2, rfl, _⟩ := hO2'
  have HI0 : Hid (Ow g2 (.slice (some ⟨g2, 0, none⟩) (b.length + 0) xs2.length) (b ++ marks 0) W2 ∧ w.heap.size ≤ g2 ∧ Nw w W2) := ⟨by simp only [marks, List.append_nil, Nat.add_zero]; exact hO2, hg2', hN2⟩
  have HAP2 : Hid (∀ ty, (Builtin.append_ #[27, 27] ty #[.slice (some ⟨w.heap.size, 0, none⟩) 0 (b.length + 32), vb]).run Try.prog W1 = .ok (.slice (some ⟨g2, 0, none⟩) b.length xs2.length) W2) := hap2
  generalize hc2 : xs2.length = c2 at *
  have HMK : (Instr.makeSlice 27 (.int .i64 0) (.int .i64 ((b.length : Int) + 32))).run Try.prog w = .ok (.slice (some ⟨w.heap.size, 0, none⟩) 0 (b.length + 32)) W1 := hmk
  obtain ⟨a, c, rfl, hc, hcc⟩ := hb.form
  clear hb hmk hO1 hN1 hs1 hap2 hO2 hF2 hg2 hN2 hg2' hc2
  generalize hL : b.length = L at *
  have hL' : Hid (b.length = L) := hL
  clear hL
  go_enter Try.func4, Try.ntmps4
  go_wp2_with (first
    | (at_builtin; refine Lib.wpList_append_run _ rfl _ _ 27 27 rfl (.slice (some ⟨w.heap.size, 0, none⟩) 0 (L + 32)) (.slice a L c) (by simp [Act.eval]) (by simp [Act.eval]) _ _ (HAP2.out _) ?_))
  go_loopg [4, 5] 32 (fun kx al i wr => ∃ (I g c ln : Nat), I ≤ 32 ∧ 32 - I ≤ kx ∧ al = .slice (some ⟨g, 0, none⟩) ln c ∧ i = .int .i64 I ∧ ln = L + I ∧ Hid (Ow g (.slice (some ⟨g, 0, none⟩) (L + I) c) (b ++ marks I) wr ∧ w.heap.size ≤ g ∧ Nw w wr))
  case atStart => exact ⟨0, g2, c2, L, by omega, by omega, rfl, rfl, by omega, HI0⟩
  case round =>
    obtain ⟨I, g, c, ln, hI, hkx, rfl, rfl, hln, HI⟩ := hrel
    subst hln
    clear HI0 HAP2 HMK
    obtain ⟨hO, hg, hN⟩ := HI.out
    have hll : (b ++ marks I).length = L + I := by rw [List.length_append, marks_length, hL'.out]
    by_cases hlt : I < 32
    · have hz : (171 + (I : Int)) = ((BitVec.ofNat 8 (171 + I)).toNat : Int) := by rw [BitVec.toNat_ofNat]; omega
      have hO' : Ow g (.slice (some ⟨g, 0, none⟩) (b ++ marks I).length c) (b ++ marks I) wr := by rw [hll]; exact hO
      obtain ⟨g', c', W, HAP, HN⟩ := own_step g (b ++ marks I) wr c hO' (by omega) (BitVec.ofNat 8 (171 + I)) _ hz
      rw [hll] at HAP HN
      have HN' : Hid (Ow g' (.slice (some ⟨g', 0, none⟩) (L + (I + 1)) c') (b ++ marks (I + 1)) W ∧ w.heap.size ≤ g' ∧ Nw w W) := by
        obtain ⟨k1, k2, k3⟩ := HN.out
        refine ⟨?_, ?_, Fr.then hN k2 (fun i hi => .inr (by omega))⟩
        · rw [List.append_assoc] at k1; exact k1
        · have := hN.size
          rcases k3 with h | h <;> omega
      have hw8 : IntKind.u8.wrap (171 + (I : Int)) = 171 + (I : Int) := by rw [IntKind.wrap_u8]; omega
      clear HI HP hO hO' hN HN hz hll
      generalize hln : L + I = ln at *
      have hlnb : ln ≤ 140737488351264 := by omega
      have hln' : Hid (L + I = ln) := hln
      clear hln
      go_wp2_with (first
        | (at_builtin; refine Lib.wpList_append_run _ rfl _ _ 27 27 rfl (.slice (some ⟨g, 0, none⟩) ln c) (.slice (some ⟨wr.heap.size, 0, none⟩) 1 1) (by simp [Act.eval]) (by simp [Act.eval]) _ _ (HAP.out _) ?_))
      go_roundg (32 - (I + 1))
      case measure => omega
      case rel => exact ⟨I + 1, g', c', ln + 1, by omega, by omega, rfl, by first | rfl | (congr 1), by have := hln'.out; omega, HN'⟩
    · obtain rfl : I = 32 := by omega
      have hLc : L + 32 ≤ c := by
        have hO' := hO
        obtain ⟨xs, e1, _, x3, x4, _⟩ := hO'
        injection e1 with _ _ e3
        rw [hll] at x3
        omega
      have HF : Hid (P (.returned (.tuple #[.slice (some ⟨g, 0, none⟩) L c, .slice (some ⟨g, 0, none⟩) (L + 32) c])) wr) := by
        show P _ _
        rw [HP.out]
        refine ⟨g, c, ?_, hg, ?_, hN⟩
        · rw [hL'.out]
        · rw [hL'.out]; exact hO
      have hz1 : (L : Int) ≤ (c : Int) := by omega
      clear HI HP hO hN hll
      go_wp2_with fail
      exact HF.out
set_option maxHeartbeats 8000000 in
set_option maxRecDepth 100000 in
/-- What was lent is as it was. -/
theorem kept_any (w : World) (g c : Nat) (vb : Value) (b : List By) (hO : Ow g (.slice (some ⟨g, 0, none⟩) (b.length + 32) c) (b ++ marks 32) w) (hb : Sl (fun _ => False) vb b w) (hbl : b.length ≤ 140737488351232) :
    Calls Try.prog 7 #[.slice (some ⟨g, 0, none⟩) (b.length + 32) c, vb] w fun e w' => e = .returned (.bool true) ∧ Nw w w' := by
  obtain ⟨P, hP⟩ : ∃ P : Ending → World → Prop, P = fun e w' => e = .returned (.bool true) ∧ Nw w w' := ⟨_, rfl⟩
  rw [← hP]
  have HP : Hid (P = fun e w' => e = .returned (.bool true) ∧ Nw w w') := hP
  clear hP
  obtain ⟨a2, c2, rfl, hi2⟩ := hb.in' (by omega)
  have HI2 : Hid (In a2 c2 b w) := hi2
  have HO : Hid (Ow g (.slice (some ⟨g, 0, none⟩) (b.length + 32) c) (b ++ marks 32) w) := hO
  have hll : (b ++ marks 32).length = b.length + 32 := by rw [List.length_append, marks_length]
  have hcb : b.length + 32 ≤ c ∧ c < 9223372036854775808 := by
    obtain ⟨xs, e1, _, x3, x4, _⟩ := hO
    injection e1 with _ _ e3
    omega
  clear hO hb hi2
  generalize hL : b.length = L at *
  have hL' : Hid (b.length = L) := hL
  have hll' : Hid ((b ++ marks 32).length = L + 32) := hll
  clear hL hll
  obtain ⟨hcb1, hcb2⟩ := hcb
  go_enter Try.func7, Try.ntmps7
  go_wp2
  go_loopg [5] (L + 32) (fun kx i wr => ∃ (I : Nat), I ≤ L + 32 ∧ L + 32 - I ≤ kx ∧ i = .int .i64 I ∧ Hid (Nw w wr))
  case atStart => exact ⟨0, by omega, by omega, rfl, Fr.refl _ _⟩
  case round =>
    obtain ⟨I, hI, hkx, rfl, HI⟩ := hrel
    have hN := HI.out
    by_cases hlt : I < L + 32
    · have hat := ((HO.out.nw hN).at I (by rw [hll'.out]; exact hlt)).1
      by_cases hlb : I < L
      · obtain ⟨g2, o2, rfl, hcell2⟩ := (HI2.out.nw hN).at I (by rw [hL'.out]; exact hlb)
        have he : (b ++ marks 32)[I]'(by rw [hll'.out]; exact hlt) = b[I]'(by rw [hL'.out]; exact hlb) := List.getElem_append_left _
        rw [he] at hat
        have hz1 : (I : Int) < (L : Int) := by omega
        have hz2 : ¬ (L : Int) ≤ (I : Int) := by omega
        have hd1 : decide (L ≤ I) = false := decide_eq_false (by omega)
        have hd2 : decide (I < L) = true := decide_eq_true (by omega)
        have hz3 : (I : Int) < (L : Int) + 32 := by omega
        clear HI HP HO HI2 he
        generalize (b[I]'(by rw [hL'.out]; exact hlb)).toNat = x at *
        go_wp2_with fail
        go_quiet (fail)
        go_wp2_with fail
        go_roundg (L + 32 - (I + 1))
        case measure => omega
        case rel => exact ⟨I + 1, by omega, by omega, by first | rfl | (congr 1), hN.trans ((Fr.refl _ _).drewN _)⟩
      · have he : ((b ++ marks 32)[I]'(by rw [hll'.out]; exact hlt)).toNat = 171 + (I - L) := by
          have h1 : (b ++ marks 32)[I]? = some (BitVec.ofNat 8 (171 + (I - L))) := by
            rw [List.getElem?_append_right (by rw [hL'.out]; omega), hL'.out]
            exact marks_at 32 (I - L) (by omega)
          rw [List.getElem?_eq_getElem (by rw [hll'.out]; exact hlt)] at h1
          injection h1 with h1
          rw [h1, BitVec.toNat_ofNat]; omega
        rw [he] at hat
        have hz1 : ¬ (I : Int) < (L : Int) := by omega
        have hz2 : (L : Int) ≤ (I : Int) := by omega
        have hd1 : decide (L ≤ I) = true := decide_eq_true (by omega)
        have hd2 : decide (I < L) = false := decide_eq_false (by omega)
        have hz3 : (I : Int) < (L : Int) + 32 := by omega
        have hz4 : IntKind.u8.wrap (171 + (I : Int) - (L : Int)) = ((171 + (I - L) : Nat) : Int) := by rw [IntKind.wrap_u8]; omega
        clear HI HP HO HI2 he
        generalize hxx : 171 + (I - L) = x at *
        clear hxx
        go_wp2_with fail
        go_quiet (fail)
        go_wp2_with fail
        go_roundg (L + 32 - (I + 1))
        case measure => omega
        case rel => exact ⟨I + 1, by omega, by omega, by first | rfl | (congr 1), hN.trans ((Fr.refl _ _).drewN _)⟩
    · have HF : Hid (P (.returned (.bool true)) wr) := by
        show P _ _
        rw [HP.out]
        exact ⟨rfl, hN⟩
      have hz3 : ¬ (I : Int) < (L : Int) + 32 := by omega
      clear HI HP HO HI2 hN
      go_wp2_with fail
      exact HF.out
end Go.Proofs.Ytoplhkpbicgceaa

import Derived.Test.YtffhpoilifgcdaaDoorVaq
import Derived.Laws.MakeOwn
namespace Go.Proofs.YtffhpoilifgcdaaDoor
open Go.RowKit
set_option linter.unusedVariables false
/-- Two lists of bytes, byte by byte. -/
theorem eq_upto (l m : List By) (k : Nat) (h : l.length = m.length) (hk : k ≤ l.length) (he : ∀ j, j < k → l[j]? = m[j]?) (hd : k = l.length) : l = m := by
  apply List.ext_getElem?
  intro i
  by_cases hi : i < k
  · exact he i hi
  · rw [List.getElem?_eq_none (by omega), List.getElem?_eq_none (by omega)]
theorem Sl.in' {X : Nat → Prop} {v : Value} {b : List By} {w : World} (h : Sl X v b w) (hs : b.length ≤ 200000000000000) : ∃ a c, v = .slice a b.length c ∧ In a c b w := by
  rcases h with ⟨a, rfl, rfl⟩ | ⟨g, _, o, c, rfl, h1, h2, h3⟩
  · exact ⟨a, 0, rfl, by simp, by simp, by simp, fun h => absurd rfl h⟩
  · exact ⟨_, c, rfl, h1, h2, hs, fun _ => ⟨g, o, rfl, h3⟩⟩
set_option maxHeartbeats 8000000 in
set_option maxRecDepth 100000 in
theorem same_any (w : World) (va vb : Value) (l m : List By) (hl : Sl (fun _ => False) va l w) (hm : Sl (fun _ => False) vb m w) (hls : l.length ≤ 200000000000000) (hms : m.length ≤ 200000000000000) :
    Calls Tryd.prog 11 #[va, vb] w fun e w' => e = .returned (.bool (decide (l = m))) ∧ Nw w w' := by
  obtain ⟨P, hP⟩ : ∃ P : Ending → World → Prop, P = fun e w' => e = .returned (.bool (decide (l = m))) ∧ Nw w w' := ⟨_, rfl⟩
  rw [← hP]
  have HP : Hid (P = fun e w' => e = .returned (.bool (decide (l = m))) ∧ Nw w w') := hP
  clear hP
  obtain ⟨a1, c1, rfl, hi1⟩ := hl.in' hls
  obtain ⟨a2, c2, rfl, hi2⟩ := hm.in' hms
  have HI1 : Hid (In a1 c1 l w) := hi1
  have HI2 : Hid (In a2 c2 m w) := hi2
  have k1 := hi1.1
  have k2 := hi1.2.1
  have k3 := hi2.1
  have k4 := hi2.2.1
  clear hl hm hi1 hi2
  by_cases hne : l.length = m.length
  · have HS : Hid (∀ k, k ≤ l.length → (∀ j, j < k → l[j]? = m[j]?) → k = l.length → l = m) := fun k hk he hd => eq_upto l m k hne hk he hd
    rw [← hne] at k3 hms ⊢
    go_enter Tryd.func11, Tryd.ntmps11
    go_wp2
    go_loopg [5] l.length (fun kx i wr => ∃ (I : Nat), I ≤ l.length ∧ l.length - I ≤ kx ∧ i = .int .i64 I ∧ Hid (Nw w wr ∧ ∀ j, j < I → l[j]? = m[j]?))
    case atStart => exact ⟨0, by omega, by omega, rfl, Fr.refl _ _, fun j hj => by omega⟩
    case round =>
      obtain ⟨I, hI, hkx, rfl, HI⟩ := hrel
      obtain ⟨hN, hE⟩ := HI.out
      by_cases hlt : I < l.length
      · have hlt2 : I < m.length := by omega
        obtain ⟨g1, o1, rfl, hcell1⟩ := (HI1.out.nw hN).at I hlt
        obtain ⟨g2, o2, rfl, hcell2⟩ := (HI2.out.nw hN).at I hlt2
        by_cases heq : l[I].toNat = m[I].toNat
        · have HN : Hid (∀ V, Nw wr V → Nw w V ∧ ∀ j, j < I + 1 → l[j]? = m[j]?) := fun V hV => ⟨hN.trans hV, fun j hj => by
            by_cases hj' : j < I
            · exact hE j hj'
            · obtain rfl : j = I := by omega
              rw [List.getElem?_eq_getElem hlt, List.getElem?_eq_getElem hlt2, BitVec.eq_of_toNat_eq heq]⟩
          rw [← heq] at hcell2
          clear HI HP HS hN hE HI1 HI2 heq hne
          generalize l[I].toNat = x at *
          go_wp2_with fail
          go_quiet (fail)
          go_wp2_with fail
          go_roundg (l.length - (I + 1))
          case measure => omega
          case rel => exact ⟨I + 1, by omega, by omega, by first | rfl | (congr 1), HN.out _ ((Fr.refl _ _).drewN _)⟩
        · have HF : Hid (∀ V, Nw wr V → P (.returned (.bool false)) V) := fun V hV => by
            rw [HP.out]
            refine ⟨?_, hN.trans hV⟩
            rw [decide_eq_false (fun h => heq (by subst h; rfl))]
          have heq' : ¬ ((l[I].toNat : Nat) : Int) = ((m[I].toNat : Nat) : Int) := by omega
          clear HI HP HS hN hE HI1 HI2 heq hne
          generalize l[I].toNat = x at *
          generalize m[I].toNat = y at *
          go_wp2_with fail
          go_quiet (fail)
          go_wp2_with fail
          exact HF.out _ ((Fr.refl _ _).drewN _)
      · have HF : Hid (P (.returned (.bool true)) wr) := by
          show P _ _
          rw [HP.out]
          exact ⟨by rw [decide_eq_true (HS.out I hI hE (by omega))], hN⟩
        clear HI HP HS hN hE HI1 HI2 hne
        go_wp2_with fail
        exact HF.out
  · have HF : Hid (P (.returned (.bool false)) w) := by
      show P _ _
      rw [HP.out]
      exact ⟨by rw [decide_eq_false (fun h => hne (by rw [h]))], Fr.refl _ _⟩
    have hne' : ¬ (l.length : Int) = (m.length : Int) := by omega
    clear HP HI1 HI2
    generalize l.length = n1 at *
    generalize m.length = n2 at *
    go_enter Tryd.func11, Tryd.ntmps11
    go_wp2_with fail
    exact HF.out
end Go.Proofs.YtffhpoilifgcdaaDoor

namespace Go.Proofs.YtffhpoilifgcdaaDoor
open Go.RowKit
set_option linter.unusedVariables false
theorem madeB (n : Nat) : (madeCells (Value.int .u8 0).cells n) = ((List.replicate n 0#8).map bv).toArray := by
  apply Array.ext'
  apply List.ext_getElem?
  intro k
  by_cases hk : k < n
  · simp [madeCells, Value.cells, hk, Nat.mod_one]
  · rw [List.getElem?_eq_none (by simp [madeCells, Value.cells]; omega), List.getElem?_eq_none (by simp; omega)]
/-- Room for bytes. -/
theorem make_any (w : World) (n : Nat) (hn : n ≤ 200000000000000) : ∃ W, (Instr.makeSlice 23 (.int .i64 0) (.int .i64 n)).run Tryd.prog w = .ok (.slice (some ⟨w.heap.size, 0, none⟩) 0 n) W ∧ Ow w.heap.size (.slice (some ⟨w.heap.size, 0, none⟩) 0 n) [] W ∧ Nw w W ∧ W.heap.size = w.heap.size + 1 := by
  obtain ⟨i, hi, hz, hs, hby⟩ := infoB
  have h := run_make (P := Tryd.prog) w 23 5 i _ Tryd.underlying23 hi hz .i64 .i64 0 n (Int.le_refl _) (by omega) (by rw [hby]; omega) (by omega)
  simp only [Int.toNat_zero, Int.toNat_natCast, hs, Nat.mul_one, madeB] at h
  refine ⟨_, h, ⟨List.replicate n 0#8, by simp, by simp, by simp, by simp; omega, ?_⟩, (Fr.refl _ _).alloc _, by simp⟩
  exact new_heap _ _
def marks : Nat → List By
  | 0 => []
  | k + 1 => marks k ++ [BitVec.ofNat 8 (171 + k)]
theorem marks_length (k : Nat) : (marks k).length = k := by
  induction k with
  | zero => rfl
  | succ k ih => simp [marks, ih]
theorem marks_at (k j : Nat) (h : j < k) : (marks k)[j]? = some (BitVec.ofNat 8 (171 + j)) := by
  induction k with
  | zero => omega
  | succ k ih =>
    have := marks_length k
    by_cases hj : j < k
    · simp only [marks]
      rw [List.getElem?_append_left (by omega)]; exact ih hj
    · obtain rfl : j = k := by omega
      simp only [marks]
      rw [List.getElem?_append_right (by omega), this]; simp
theorem one_byte' (w : World) (x : By) (z : Int) (hz : z = x.toNat) : Sl (fun _ => False) (.slice (some ⟨w.heap.size, 0, none⟩) 1 1) [x] (w.alloc (.cells #[.int .u8 z] 5)) := by
  subst hz; exact one_byte w x
/-- One byte more, in a block of one's own. -/
theorem own_step (g : Nat) (l : List By) (wr : World) (c : Nat) (h : Ow g (.slice (some ⟨g, 0, none⟩) l.length c) l wr) (hs : l.length ≤ 150000000000000) (x : By) (z : Int) (hz : z = x.toNat) :
    ∃ g' c' W, Hid (∀ ty, (Builtin.append_ #[23, 23] ty #[.slice (some ⟨g, 0, none⟩) l.length c, .slice (some ⟨wr.heap.size, 0, none⟩) 1 1]).run Tryd.prog (wr.alloc (.cells #[.int .u8 z] 5)) = .ok (.slice (some ⟨g', 0, none⟩) (l.length + 1) c') W) ∧ Hid (Ow g' (.slice (some ⟨g', 0, none⟩) (l.length + 1) c') (l ++ [x]) W ∧ Fr (fun k => k = g) wr W ∧ (g' = g ∨ wr.heap.size ≤ g')) := by
  have hN : Nw wr (wr.alloc (.cells #[.int .u8 z] 5)) := (Fr.refl _ _).alloc _
  obtain ⟨v', g', W, hap, hO, hF, hg⟩ := app_any _ g _ l (h.nw hN) _ _ (one_byte' wr x z hz) (by simp; omega)
  have hO' := hO
  obtain ⟨xs, rfl, _⟩ := hO'
  rw [List.length_append] at hO hap
  refine ⟨g', xs.length, W, hap, hO, hN.any.trans hF, ?_⟩
  rcases hg with h | h
  · exact .inl h
  · exact .inr (by simp at h; omega)
/-- What lent answers. -/
def Lentd (b : List By) (w : World) (e : Ending) (w' : World) : Prop :=
  ∃ g c, e = .returned (.tuple #[.slice (some ⟨g, 0, none⟩) b.length c, .slice (some ⟨g, 0, none⟩) (b.length + 32) c]) ∧ w.heap.size ≤ g ∧ Ow g (.slice (some ⟨g, 0, none⟩) (b.length + 32) c) (b ++ marks 32) w' ∧ Nw w w'
set_option maxHeartbeats 8000000 in
set_option maxRecDepth 100000 in
theorem lent_any (w : World) (vb : Value) (b : List By) (hb : Old w vb b) (hbl : b.length ≤ 140737488351232) : Calls Tryd.prog 8 #[vb] w (Lentd b w) := by
  obtain ⟨P, hP⟩ : ∃ P, P = Lentd b w := ⟨_, rfl⟩
  rw [← hP]
  have HP : Hid (P = Lentd b w) := hP
  clear hP
  obtain ⟨W1, hmk, hO1, hN1, hs1⟩ := make_any w (b.length + 32) (by omega)
  obtain ⟨v2, g2, W2, hap2, hO2, hF2, hg2⟩ := app_any W1 w.heap.size _ [] hO1 vb b ((hb.nw hN1).mono (fun _ h => h.elim)) (by simp; omega)
  rw [List.nil_append] at hO2
  have hN2 : Nw w W2 := Fr.then hN1 hF2 (fun i hi => .inr (by omega))
  have hg2' : w.heap.size ≤ g2 := by rcases hg2 with h | h <;> omega
  have hO2' := hO2
  obtain ⟨xs2, rfl, _⟩ := hO2'
  have HI0 : Hid (Ow g2 (.slice (some ⟨g2, 0, none⟩) (b.length + 0) xs2.length) (b ++ marks 0) W2 ∧ w.heap.size ≤ g2 ∧ Nw w W2) := ⟨by simp only [marks, List.append_nil, Nat.add_zero]; exact hO2, hg2', hN2⟩
  have HAP2 : Hid (∀ ty, (Builtin.append_ #[23, 23] ty #[.slice (some ⟨w.heap.size, 0, none⟩) 0 (b.length + 32), vb]).run Tryd.prog W1 = .ok (.slice (some ⟨g2, 0, none⟩) b.length xs2.length) W2) := hap2
  generalize hc2 : xs2.length = c2 at *
  have HMK : (Instr.makeSlice 23 (.int .i64 0) (.int .i64 ((b.length : Int) + 32))).run Tryd.prog w = .ok (.slice (some ⟨w.heap.size, 0, none⟩) 0 (b.length + 32)) W1 := hmk
  obtain ⟨a, c, rfl, hc, hcc⟩ := hb.form
  clear hb hmk hO1 hN1 hs1 hap2 hO2 hF2 hg2 hN2 hg2' hc2
  generalize hL : b.length = L at *
  have hL' : Hid (b.length = L) := hL
  clear hL
  go_enter Tryd.func8, Tryd.ntmps8
  go_wp2_with (first
    | (at_builtin; refine Lib.wpList_append_run _ rfl _ _ 23 23 rfl (.slice (some ⟨w.heap.size, 0, none⟩) 0 (L + 32)) (.slice a L c) (by simp [Act.eval]) (by simp [Act.eval]) _ _ (HAP2.out _) ?_))
  go_loopg [4, 5] 32 (fun kx al i wr => ∃ (I g c ln : Nat), I ≤ 32 ∧ 32 - I ≤ kx ∧ al = .slice (some ⟨g, 0, none⟩) ln c ∧ i = .int .i64 I ∧ ln = L + I ∧ Hid (Ow g (.slice (some ⟨g, 0, none⟩) (L + I) c) (b ++ marks I) wr ∧ w.heap.size ≤ g ∧ Nw w wr))
  case atStart => exact ⟨0, g2, c2, L, by omega, by omega, rfl, rfl, by omega, HI0⟩
  case round =>
    obtain ⟨I, g, c, ln, hI, hkx, rfl, rfl, hln, HI⟩ := hrel
    subst hln
    clear HI0 HAP2 HMK
    obtain ⟨hO, hg, hN⟩ := HI.out
    have hll : (b ++ marks I).length = L + I := by rw [List.length_append, marks_length, hL'.out]
    by_cases hlt : I < 32
    · have hz : (171 + (I : Int)) = ((BitVec.ofNat 8 (171 + I)).toNat : Int) := by rw [BitVec.toNat_ofNat]; omega
      have hO' : Ow g (.slice (some ⟨g, 0, none⟩) (b ++ marks I).length c) (b ++ marks I) wr := by rw [hll]; exact hO
      obtain ⟨g', c', W, HAP, HN⟩ := own_step g (b ++ marks I) wr c hO' (by omega) (BitVec.ofNat 8 (171 + I)) _ hz
      rw [hll] at HAP HN
      have HN' : Hid (Ow g' (.slice (some ⟨g', 0, none⟩) (L + (I + 1)) c') (b ++ marks (I + 1)) W ∧ w.heap.size ≤ g' ∧ Nw w W) := by
        obtain ⟨k1, k2, k3⟩ := HN.out
        refine ⟨?_, ?_, Fr.then hN k2 (fun i hi => .inr (by omega))⟩
        · rw [List.append_assoc] at k1; exact k1
        · have := hN.size
          rcases k3 with h | h <;> omega
      have hw8 : IntKind.u8.wrap (171 + (I : Int)) = 171 + (I : Int) := by rw [IntKind.wrap_u8]; omega
      clear HI HP hO hO' hN HN hz hll
      generalize hln : L + I = ln at *
      have hlnb : ln ≤ 140737488351264 := by omega
      have hln' : Hid (L + I = ln) := hln
      clear hln
      go_wp2_with (first
        | (at_builtin; refine Lib.wpList_append_run _ rfl _ _ 23 23 rfl (.slice (some ⟨g, 0, none⟩) ln c) (.slice (some ⟨wr.heap.size, 0, none⟩) 1 1) (by simp [Act.eval]) (by simp [Act.eval]) _ _ (HAP.out _) ?_))
      go_roundg (32 - (I + 1))
      case measure => omega
      case rel => exact ⟨I + 1, g', c', ln + 1, by omega, by omega, rfl, by first | rfl | (congr 1), by have := hln'.out; omega, HN'⟩
    · obtain rfl : I = 32 := by omega
      have hLc : L + 32 ≤ c := by
        have hO' := hO
        obtain ⟨xs, e1, _, x3, x4, _⟩ := hO'
        injection e1 with _ _ e3
        rw [hll] at x3
        omega
      have HF : Hid (P (.returned (.tuple #[.slice (some ⟨g, 0, none⟩) L c, .slice (some ⟨g, 0, none⟩) (L + 32) c])) wr) := by
        show P _ _
        rw [HP.out]
        refine ⟨g, c, ?_, hg, ?_, hN⟩
        · rw [hL'.out]
        · rw [hL'.out]; exact hO
      have hz1 : (L : Int) ≤ (c : Int) := by omega
      clear HI HP hO hN hll
      go_wp2_with fail
      exact HF.out
set_option maxHeartbeats 8000000 in
set_option maxRecDepth 100000 in
/-- What was lent is as it was. -/
theorem kept_any (w : World) (g c : Nat) (vb : Value) (b : List By) (hO : Ow g (.slice (some ⟨g, 0, none⟩) (b.length + 32) c) (b ++ marks 32) w) (hb : Sl (fun _ => False) vb b w) (hbl : b.length ≤ 140737488351232) :
    Calls Tryd.prog 13 #[.slice (some ⟨g, 0, none⟩) (b.length + 32) c, vb] w fun e w' => e = .returned (.bool true) ∧ Nw w w' := by
  obtain ⟨P, hP⟩ : ∃ P : Ending → World → Prop, P = fun e w' => e = .returned (.bool true) ∧ Nw w w' := ⟨_, rfl⟩
  rw [← hP]
  have HP : Hid (P = fun e w' => e = .returned (.bool true) ∧ Nw w w') := hP
  clear hP
  obtain ⟨a2, c2, rfl, hi2⟩ := hb.in' (by omega)
  have HI2 : Hid (In a2 c2 b w) := hi2
  have HO : Hid (Ow g (.slice (some ⟨g, 0, none⟩) (b.length + 32) c) (b ++ marks 32) w) := hO
  have hll : (b ++ marks 32).length = b.length + 32 := by rw [List.length_append, marks_length]
  have hcb : b.length + 32 ≤ c ∧ c < 9223372036854775808 := by
    obtain ⟨xs, e1, _, x3, x4, _⟩ := hO
    injection e1 with _ _ e3
    omega
  clear hO hb hi2
  generalize hL : b.length = L at *
  have hL' : Hid (b.length = L) := hL
  have hll' : Hid ((b ++ marks 32).length = L + 32) := hll
  clear hL hll
  obtain ⟨hcb1, hcb2⟩ := hcb
  go_enter Tryd.func13, Tryd.ntmps13
  go_wp2
  go_loopg [5] (L + 32) (fun kx i wr => ∃ (I : Nat), I ≤ L + 32 ∧ L + 32 - I ≤ kx ∧ i = .int .i64 I ∧ Hid (Nw w wr))
  case atStart => exact ⟨0, by omega, by omega, rfl, Fr.refl _ _⟩
  case round =>
    obtain ⟨I, hI, hkx, rfl, HI⟩ := hrel
    have hN := HI.out
    by_cases hlt : I < L + 32
    · have hat := ((HO.out.nw hN).at I (by rw [hll'.out]; exact hlt)).1
      by_cases hlb : I < L
      · obtain ⟨g2, o2, rfl, hcell2⟩ := (HI2.out.nw hN).at I (by rw [hL'.out]; exact hlb)
        have he : (b ++ marks 32)[I]'(by rw [hll'.out]; exact hlt) = b[I]'(by rw [hL'.out]; exact hlb) := List.getElem_append_left _
        rw [he] at hat
        have hz1 : (I : Int) < (L : Int) := by omega
        have hz2 : ¬ (L : Int) ≤ (I : Int) := by omega
        have hd1 : decide (L ≤ I) = false := decide_eq_false (by omega)
        have hd2 : decide (I < L) = true := decide_eq_true (by omega)
        have hz3 : (I : Int) < (L : Int) + 32 := by omega
        clear HI HP HO HI2 he
        generalize (b[I]'(by rw [hL'.out]; exact hlb)).toNat = x at *
        go_wp2_with fail
        go_quiet (fail)
        go_wp2_with fail
        go_roundg (L + 32 - (I + 1))
        case measure => omega
        case rel => exact ⟨I + 1, by omega, by omega, by first | rfl | (congr 1), hN.trans ((Fr.refl _ _).drewN _)⟩
      · have he : ((b ++ marks 32)[I]'(by rw [hll'.out]; exact hlt)).toNat = 171 + (I - L) := by
          have h1 : (b ++ marks 32)[I]? = some (BitVec.ofNat 8 (171 + (I - L))) := by
            rw [List.getElem?_append_right (by rw [hL'.out]; omega), hL'.out]
            exact marks_at 32 (I - L) (by omega)
          rw [List.getElem?_eq_getElem (by rw [hll'.out]; exact hlt)] at h1
          injection h1 with h1
          rw [h1, BitVec.toNat_ofNat]; omega
        rw [he] at hat
        have hz1 : ¬ (I : Int) < (L : Int) := by omega
        have hz2 : (L : Int) ≤ (I : Int) := by omega
        have hd1 : decide (L ≤ I) = true := decide_eq_true (by omega)
        have hd2 : decide (I < L) = false := decide_eq_false (by omega)
        have hz3 : (I : Int) < (L : Int) + 32 := by omega
        have hz4 : IntKind.u8.wrap (171 + (I : Int) - (L : Int)) = ((171 + (I - L) : Nat) : Int) := by rw [IntKind.wrap_u8]; omega
        clear HI HP HO HI2 he
        generalize hxx : 171 + (I - L) = x at *
        clear hxx
        go_wp2_with fail
        go_quiet (fail)
        go_wp2_with fail
        go_roundg (L + 32 - (I + 1))
        case measure => omega
        case rel => exact ⟨I + 1, by omega, by omega, by first | rfl | (congr 1), hN.trans ((Fr.refl _ _).drewN _)⟩
    · have HF : Hid (P (.returned (.bool true)) wr) := by
        show P _ _
        rw [HP.out]
        exact ⟨rfl, hN⟩
      have hz3 : ¬ (I : Int) < (L : Int) + 32 := by omega
      clear HI HP HO HI2 hN
      go_wp2_with fail
      exact HF.out
end Go.Proofs.YtffhpoilifgcdaaDoor

namespace Go.Proofs.YtffhpoilifgcdaaDoor
open Go.RowKit
set_option linter.unusedVariables false
/-- One byte more, nil or own. -/
theorem mine_step (K : Nat → Prop) (l : List By) (wr : World) (hK : ∀ k, K k → k < wr.heap.size) (v : Value) (h : Mine K v l wr) (hs : l.length ≤ 150000000000000) (x : By) (z : Int) (hz : z = x.toNat) :
    ∃ a c v' W, v = .slice a l.length c ∧ Hid (∀ ty, (Builtin.append_ #[23, 23] ty #[.slice a l.length c, .slice (some ⟨wr.heap.size, 0, none⟩) 1 1]).run Tryd.prog (wr.alloc (.cells #[.int .u8 z] 5)) = .ok v' W) ∧ Hid (Mine K v' (l ++ [x]) W ∧ Fr (fun k => ¬ K k) wr W) := by
  have hN : Nw wr (wr.alloc (.cells #[.int .u8 z] 5)) := (Fr.refl _ _).alloc _
  have hsz : (wr.alloc (.cells #[.int .u8 z] 5)).heap.size = wr.heap.size + 1 := by simp
  obtain ⟨v', W, hap, hM, hF⟩ := mine_app K _ (fun k hk => by rw [hsz]; have := hK k hk; omega) v l (h.nw hN) _ _ (one_byte' wr x z hz) (by simp; omega)
  obtain ⟨a, c, rfl, _, _⟩ := h.sl.form
  exact ⟨a, c, v', W, rfl, hap, hM, hN.any.trans hF⟩
set_option maxHeartbeats 8000000 in
set_option maxRecDepth 100000 in
theorem full_any (K : Nat → Prop) (w : World) (hK : ∀ k, K k → k < w.heap.size) (v : Value) (l : List By) (h : Mine K v l w) (hl : l.length ≤ 140737488351232) (x : By) :
    Calls Tryd.prog 14 #[v, .int .u8 x.toNat] w fun e w' => (∃ r, e = .returned r) ∧ Fr (fun k => ¬ K k) w w' := by
  obtain ⟨P, hP⟩ : ∃ P : Ending → World → Prop, P = fun e w' => (∃ r, e = .returned r) ∧ Fr (fun k => ¬ K k) w w' := ⟨_, rfl⟩
  rw [← hP]
  have HP : Hid (P = fun e w' => (∃ r, e = .returned r) ∧ Fr (fun k => ¬ K k) w w') := hP
  clear hP
  have HI0 : Hid (Mine K v l w ∧ Fr (fun k => ¬ K k) w w) := ⟨h, Fr.refl _ _⟩
  have HK : Hid (∀ k, K k → k < w.heap.size) := hK
  obtain ⟨a, c, rfl, hc, hc2⟩ := h.sl.form
  have hxl := x.isLt
  clear h hK
  generalize hL : l.length = L at *
  have hL' : Hid (l.length = L) := hL
  clear hL
  go_enter Tryd.func14, Tryd.ntmps14
  go_wp2
  go_loopg [4] L (fun kx i wr => ∃ (I : Nat) (m : List By), I ≤ L ∧ L - I ≤ kx ∧ i = .int .i64 I ∧ Hid (m.length = L ∧ Mine K (.slice a L c) m wr ∧ Fr (fun k => ¬ K k) w wr))
  case atStart => exact ⟨0, l, by omega, by omega, rfl, hL'.out, HI0.out.1, HI0.out.2⟩
  case round =>
    obtain ⟨I, m, hI, hkx, rfl, HI⟩ := hrel
    clear HI0
    obtain ⟨hml, hM, hF⟩ := HI.out
    by_cases hlt : I < L
    · rcases hM with ⟨_, rfl⟩ | ⟨g, hg, hO⟩
      · simp at hml; omega
      · have hO' := hO
        obtain ⟨xs, e1, _⟩ := hO'
        injection e1 with e1 _ _
        subst e1
        obtain ⟨k1, k2⟩ := hO.at I (by omega)
        have HN : Hid ((m.set I x).length = L ∧ Mine K (.slice (some ⟨g, 0, none⟩) L c) (m.set I x) (wr.setCell ⟨g, I, none⟩ (.int .u8 x.toNat)) ∧ Fr (fun k => ¬ K k) w (wr.setCell ⟨g, I, none⟩ (.int .u8 x.toNat))) :=
          ⟨by rw [List.length_set]; exact hml, .inr ⟨g, hg, hO.put I (by omega) x _ rfl⟩, hF.setCell _ _ (.inl hg)⟩
        obtain ⟨y, hy⟩ : ∃ y : Nat, wr.cell? ⟨g, I, none⟩ = some (.int .u8 y) := ⟨_, k1⟩
        clear k1
        clear HI hO hF hml HP HK
        go_wp2_with fail
        go_roundg (L - (I + 1))
        case measure => omega
        case rel => exact ⟨I + 1, _, by omega, by omega, by first | rfl | (congr 1), HN⟩
    · have hz : ¬ (I : Int) < (L : Int) := by omega
      have HI1 : Hid (m.length ≤ L ∧ Mine K (.slice a L c) m wr ∧ Fr (fun k => ¬ K k) w wr) := ⟨by omega, hM, hF⟩
      clear HI hM hF hml
      go_wp2
      go_loopg [0, 5] 90 (fun kx v i wr => ∃ (J : Nat) (m : List By), J ≤ 90 ∧ 90 - J ≤ kx ∧ i = .int .i64 J ∧ Hid (m.length ≤ L + J ∧ Mine K v m wr ∧ Fr (fun k => ¬ K k) w wr))
      case atStart => exact ⟨0, m, by omega, by omega, rfl, HI1⟩
      case round =>
        obtain ⟨J, m2, hJ, hkx2, rfl, HJ⟩ := hrel
        obtain ⟨hml2, hM2, hF2⟩ := HJ.out
        clear HI1
        by_cases hlt2 : J < 90
        · obtain ⟨a2, c2, v', W, rfl, HAP, HN⟩ := mine_step K m2 _ (fun k hk => Nat.lt_of_lt_of_le (HK.out k hk) hF2.size) u0 hM2 (by omega) x _ rfl
          have HN' : Hid ((m2 ++ [x]).length ≤ L + (J + 1) ∧ Mine K v' (m2 ++ [x]) W ∧ Fr (fun k => ¬ K k) w W) := ⟨by rw [List.length_append, List.length_singleton]; omega, HN.out.1, hF2.trans HN.out.2⟩
          have hz2 : (J : Int) < 90 := by omega
          clear HN hM2 hF2 HJ HP HK
          generalize m2.length = ln at *
          go_wp2_with (first
            | (at_builtin; refine Lib.wpList_append_run _ rfl _ _ 23 23 rfl (.slice a2 ln c2) (.slice (some ⟨_, 0, none⟩) 1 1) (by simp [Act.eval]) (by simp [Act.eval]) _ _ (HAP.out _) ?_))
          go_roundg (90 - (J + 1))
          case measure => omega
          case rel => exact ⟨J + 1, _, by omega, by omega, by first | rfl | (congr 1), HN'⟩
        · have hz2 : ¬ (J : Int) < 90 := by omega
          have HF := hF2
          have HF' : Hid (Fr (fun k => ¬ K k) w _) := HF
          clear HJ hM2 hF2 HF HK
          go_wp2
          go_end0
          rw [HP.out]
          exact ⟨⟨_, rfl⟩, HF'.out⟩
end Go.Proofs.YtffhpoilifgcdaaDoor

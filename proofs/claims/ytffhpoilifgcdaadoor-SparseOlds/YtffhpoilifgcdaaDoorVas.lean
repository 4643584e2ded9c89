import Derived.Test.YtffhpoilifgcdaaDoorVam
import Derived.Test.YtffhpoilifgcdaaDoorVar
namespace Go.Proofs.YtffhpoilifgcdaaDoor
open Go.RowKit
set_option linter.unusedVariables false
/-! ### Join -/
/-- Bytes that a call made. -/
abbrev NewB (w : World) (v : Value) (l : List By) (V : World) : Prop := Mine (fun k => k < w.heap.size) v l V
def JnA (w : World) (b : List By) (l : List Rg) (e : Ending) (V : World) : Prop := ∃ a m c, e = .returned (.tuple #[.slice a m c, .int .i64 (if vld l b.length then 0 else 1)]) ∧ Hid (Nw w V ∧ NewB w (.slice a m c) (if vld l b.length then jn b l else []) V)
theorem JnA.bad {w : World} {b : List By} {l : List Rg} {V : World} (h : vld l b.length = false) (hN : Nw w V) : JnA w b l (.returned (.tuple #[.slice none 0 0, .int .i64 1])) V := by
  refine ⟨none, 0, 0, by rw [h]; rfl, hN, ?_⟩
  rw [h]; exact Mine.nil _ _
theorem JnA.ok {w : World} {b : List By} {l : List Rg} {V : World} (h : vld l b.length = true) (hN : Nw w V) (g c : Nat) (hg : w.heap.size ≤ g) (m : Nat) (hO : Ow g (.slice (some ⟨g, 0, none⟩) m c) (jn b l) V) : JnA w b l (.returned (.tuple #[.slice (some ⟨g, 0, none⟩) m c, .int .i64 0])) V := by
  refine ⟨some ⟨g, 0, none⟩, m, c, by rw [h]; rfl, hN, ?_⟩
  rw [h]; exact .inr ⟨g, by omega, hO⟩
/-- One piece more behind bytes of one's own. -/
theorem app_own (V : World) (g : Nat) (m c : Nat) (acc : List By) (hO : Ow g (.slice (some ⟨g, 0, none⟩) m c) acc V) (x : Value) (p : List By) (hx : Sl (fun _ => False) x p V) (hb : acc.length + p.length ≤ 200000000000000) :
    ∃ g' m' c' W, Hid (∀ ty, (Builtin.append_ #[23, 23] ty #[.slice (some ⟨g, 0, none⟩) m c, x]).run Tryd.prog V = .ok (.slice (some ⟨g', 0, none⟩) m' c') W) ∧ Ow g' (.slice (some ⟨g', 0, none⟩) m' c') (acc ++ p) W ∧ Fr (fun k => k = g) V W ∧ (g' = g ∨ V.heap.size ≤ g') := by
  obtain ⟨v', g', W, k1, k2, k3, k4⟩ := app_any V g _ acc hO x p hx hb
  obtain ⟨xs, rfl, _⟩ := id k2
  exact ⟨g', _, _, W, k1, k2, k3, k4⟩
/-- A part of a slice. -/
theorem Sl.part {X : Nat → Prop} {g o n c : Nat} {l : List By} {w : World} (h : Sl X (.slice (some ⟨g, o, none⟩) n c) l w) (F T : Nat) (h1 : F ≤ T) (h2 : T ≤ n) (hc : F < c) : Sl X (.slice (some ⟨g, o + F, none⟩) (T - F) (c - F)) ((l.drop F).take (T - F)) w := by
  rcases h with ⟨a, e, rfl⟩ | ⟨g', hg, o', c', e, q1, q2, q3⟩
  · injection e with e1 e2 e3; omega
  · injection e with e1 e2 e3
    injection e1 with e1
    injection e1 with e1 e4
    subst e1 e4
    refine .inr ⟨g, hg, o + F, c - F, ?_, ?_, by omega, (q3.drop F).take (T - F)⟩
    · rw [List.length_take, List.length_drop]
      congr 1
      omega
    · rw [List.length_take, List.length_drop]; omega
theorem pc_none (b : List By) (x : Rg) (F T : Nat) (h1 : x.1 = F) (h2 : x.2 = T) (h : T ≤ F) : pc b x = [] := by
  unfold pc
  rw [h1, h2, Int.toNat_natCast, Int.toNat_natCast, show T - F = 0 by omega, List.take_zero]
theorem pc_eq (b : List By) (x : Rg) (F T : Nat) (h1 : x.1 = F) (h2 : x.2 = T) : pc b x = (b.drop F).take (T - F) := by
  unfold pc
  rw [h1, h2, Int.toNat_natCast, Int.toNat_natCast]
end Go.Proofs.YtffhpoilifgcdaaDoor

namespace Go.Proofs.YtffhpoilifgcdaaDoor
open Go.RowKit
set_option linter.unusedVariables false
/-! ### A list of ranges written over -/
theorem OwR.setG {g : Nat} {v : Value} {l : List Rg} {W : World} (h : OwR RG g v l W) (I : Nat) (hI : I < l.length) (x y : Int) : OwR RG g v (l.set I (x, y)) ((W.setCell ⟨g, I * 2, none⟩ (.int .i64 x)).setCell ⟨g, I * 2 + 1, none⟩ (.int .i64 y)) := by
  have h1 : OwR RG g v (l.set I (x, (l[I]'hI).2)) (W.setCell ⟨g, I * 2, none⟩ (.int .i64 x)) := by
    obtain ⟨xs, h1, h2, h3, h4, h5⟩ := h
    have hxI : xs[I]? = some l[I] := by
      have e : (xs.take l.length)[I]? = l[I]? := by rw [h2]
      rw [List.getElem?_take, if_pos hI, List.getElem?_eq_getElem hI] at e
      exact e
    refine ⟨xs.set I (x, l[I].2), ?_, ?_, ?_, ?_, ?_⟩
    · rw [List.length_set, List.length_set]; exact h1
    · rw [List.length_set, List.take_set, h2]
    · rw [List.length_set, List.length_set]; exact h3
    · rw [List.length_set]; exact h4
    · have hl := flatR_length rgOk xs
      have hk : RG.k = 2 := rfl
      rw [hk] at hl
      have hat := flatR_at rgOk xs I 1 l[I] (.int .i64 l[I].2) hxI rfl
      rw [hk] at hat
      unfold SwR at h5 ⊢
      rw [flatR_set rgOk xs I _ (by omega), hk, show (I + 1) * 2 = I * 2 + 2 by omega]
      simp only [World.setCell, Array.getElem?_modify, h5]
      have he : RG.enc (x, l[I].2) = [.int .i64 x, .int .i64 l[I].2] := rfl
      rw [he]
      simp only [if_true, Option.map_some]
      congr 2
      apply Array.ext'
      show ((flatR RG xs).toArray.setIfInBounds (I * 2) (.int .i64 x)).toList = _
      rw [Array.toList_setIfInBounds]
      show (flatR RG xs).set (I * 2) (.int .i64 x) = _
      apply List.ext_getElem?
      intro m
      rw [List.getElem?_set]
      by_cases e1 : I * 2 = m
      · subst e1
        rw [if_pos rfl, if_pos (by omega), List.append_assoc, List.getElem?_append_right (by rw [List.length_take]; omega), List.length_take, Nat.min_eq_left (by omega), Nat.sub_self]
        rfl
      · rw [if_neg e1]
        by_cases e2 : m < I * 2
        · rw [List.append_assoc, List.getElem?_append_left (by rw [List.length_take]; omega), List.getElem?_take, if_pos e2]
        · by_cases e3 : m = I * 2 + 1
          · subst e3
            rw [hat, List.append_assoc, List.getElem?_append_right (by rw [List.length_take]; omega), List.length_take, Nat.min_eq_left (by omega), show I * 2 + 1 - I * 2 = 1 by omega]
            rfl
          · rw [List.getElem?_append_right (by rw [List.length_append, List.length_take]; simp; omega), List.getElem?_drop]
            congr 1
            rw [List.length_append, List.length_take, Nat.min_eq_left (by omega)]
            simp
            omega
  have h2 := h1.set2 I (by rw [List.length_set]; exact hI) y
  rw [List.getElem_set_self, List.set_set] at h2
  exact h2
/-- Whoever owns it: nil, or a block. -/
def WrI (og : Option Nat) (v : Value) (m : Nat) (w V : World) : Prop := ∃ og' l', l'.length = m ∧ OgR RG og' v l' V ∧ Went og og' w ∧ Fr (fun k => og = some k) w V
set_option maxHeartbeats 8000000 in
set_option maxRecDepth 100000 in
theorem written_any (w : World) (og : Option Nat) (v : Value) (l : List Rg) (h : OgR RG og v l w) (hn : l.length ≤ 100000000) :
    Calls Tryd.prog 15 #[v] w fun e w' => (∃ r, e = .returned r) ∧ Fr (fun k => og = some k) w w' := by
  obtain ⟨P, hP⟩ : ∃ P : Ending → World → Prop, P = fun e w' => (∃ r, e = .returned r) ∧ Fr (fun k => og = some k) w w' := ⟨_, rfl⟩
  rw [← hP]
  have HF : Hid (∀ r V, Fr (fun k => og = some k) w V → P (.returned r) V) := fun r V hV => by rw [hP]; exact ⟨⟨_, rfl⟩, hV⟩
  clear hP
  obtain ⟨a, c, rfl, k1, k2⟩ := h.form
  obtain ⟨n, hln⟩ : ∃ n, l.length = n := ⟨_, rfl⟩
  have H0 : Hid (∃ l', l'.length = n ∧ OgR RG og (.slice a n c) l' w ∧ Fr (fun k => og = some k) w w) := ⟨l, hln, by rw [← hln]; exact h, Fr.refl _ _⟩
  rw [hln] at k1 hn ⊢
  clear h hln
  go_enter Tryd.func15, Tryd.ntmps15
  go_upto_region 1 with fail
  go_loopg [2] n (fun kx i wr => ∃ I : Nat, I ≤ n ∧ n - I ≤ kx ∧ i = .int .i64 I ∧ Hid (∃ l', l'.length = n ∧ OgR RG og (.slice a n c) l' wr ∧ Fr (fun k => og = some k) w wr))
  case atStart => exact ⟨0, by omega, by omega, rfl, H0⟩
  case round =>
    obtain ⟨I, hI, hkx, rfl, HI⟩ := hrel
    obtain ⟨l', hl', hO, hF⟩ := HI.out
    by_cases hlt : I < n
    · cases og with
      | none =>
        obtain ⟨e, e2⟩ := hO
        rw [e2] at hl'
        simp at hl'
        omega
      | some g =>
        have hO2 : OwR RG g (.slice a n c) l' wr := hO
        obtain ⟨xs, e, _⟩ := id hO2
        injection e with ea en ec
        subst ea
        have hlt' : I < l'.length := by omega
        obtain ⟨c0, f0⟩ := hO2.cell rgOk I 0 _ _ (List.getElem?_eq_getElem hlt') rfl
        obtain ⟨c1, f1⟩ := hO2.cell rgOk I 1 _ _ (List.getElem?_eq_getElem hlt') rfl
        rw [show RG.k = 2 from rfl] at c0 f0 c1 f1
        rw [Nat.add_zero] at c0 f0
        have hset := hO2.setG I hlt' 9 1
        obtain ⟨U1, hU1⟩ : ∃ U1, wr.setCell ⟨g, I * 2, none⟩ (.int .i64 9) = U1 := ⟨_, rfl⟩
        obtain ⟨U2, hU2⟩ : ∃ U2, U1.setCell ⟨g, I * 2 + 1, none⟩ (.int .i64 1) = U2 := ⟨_, rfl⟩
        have hF2 : Fr (fun k => some g = some k) w U2 := by
          rw [← hU2, ← hU1]
          exact (hF.setCell _ _ (.inl rfl)).setCell _ _ (.inl rfl)
        have d1 : U1.cell? ⟨g, I * 2 + 1, none⟩ = wr.cell? ⟨g, I * 2 + 1, none⟩ := by rw [← hU1]; exact World.cell?_setCell_other _ _ _ _ (fun e => by have := congrArg Addr.off e; simp at this)
        have d2 : U1.frozen? ⟨g, I * 2 + 1, none⟩ = wr.frozen? ⟨g, I * 2 + 1, none⟩ := by rw [← hU1]; exact World.frozen?_setCell _ _ _ _
        rw [c1] at d1
        rw [f1] at d2
        generalize (l'[I]'hlt').1 = y1 at *
        generalize (l'[I]'hlt').2 = y2 at *
        rw [hU1, hU2] at hset
        have HW2 : Hid (∃ l', l'.length = n ∧ OgR RG (some g) (.slice (some ⟨g, 0, none⟩) n c) l' U2 ∧ Fr (fun k => some g = some k) w U2) := ⟨l'.set I (9, 1), by rw [List.length_set]; exact hl', hset, hF2⟩
        clear HF HI hO hO2 hF hF2 hset hl' hlt' H0
        go_wp2_with fail
        go_roundg (n - (I + 1))
        case measure => omega
        case rel => exact ⟨I + 1, by omega, by omega, by first | rfl | (congr 1), HW2⟩
    · obtain rfl : n = I := by omega
      have HW : Hid (WrI og (.slice a n c) n w wr) := ⟨og, l', hl', hO, Went.refl _ _, hF⟩
      clear HI hO hF hl' H0
      go_upto_region 5 with fail
      go_loopg [0, 3] 40 (fun kx v i wr => ∃ (I m c' : Nat) (a' : Option Addr), I ≤ 40 ∧ 40 - I ≤ kx ∧ m = n + I ∧ v = .slice a' m c' ∧ i = .int .i64 I ∧ Hid (WrI og (.slice a' m c') m w wr))
      case atStart => exact ⟨0, n, c, a, by omega, by omega, rfl, rfl, rfl, HW⟩
      case round =>
        obtain ⟨I, m, c', a', hI, hkx, hm, rfl, rfl, HI⟩ := hrel
        obtain ⟨og', l2, hl2, hO2, hWe, hF2⟩ := HI.out
        by_cases hlt2 : I < 40
        · obtain ⟨og2, v2, W, HA, q2, q3, q4⟩ := pushG wr og' _ l2 hO2 (by omega) (8, 1)
          obtain ⟨a2, c2, rfl, _, _⟩ := q2.form
          have e : (l2 ++ [((8 : Int), (1 : Int))]).length = m + 1 := by rw [List.length_append, List.length_singleton, hl2]
          have HW2 : Hid (WrI og (.slice a2 (l2 ++ [((8 : Int), (1 : Int))]).length c2) (m + 1) w W) := ⟨og2, _, e, q2, Went.trans hWe q4 hF2.size, hF2.then q3 (fun i hi => by
            rcases hWe with e1 | ⟨g', e1, e2⟩
            · rw [e1] at hi; exact .inl hi
            · rw [e1] at hi; injection hi with hi; exact .inr (by omega))⟩
          rw [e] at HA HW2
          have hrc : rgC (8, 1) = #[.int .i64 8, .int .i64 1] := rfl
          rw [hrc] at HA
          obtain ⟨M1, hM1⟩ : ∃ M1, m + 1 = M1 := ⟨_, rfl⟩
          rw [hM1] at HA HW2
          have HM := tHid (show M1 = n + (I + 1) by omega)
          clear HF HI hO2 hF2 hl2 HW q2 q3 q4 hWe hrc e hM1 hm
          go_wp2_with (first
            | (at_builtin; refine Lib.wpList_append_run _ rfl _ _ 22 22 rfl (.slice a' m c') (.slice (some ⟨wr.heap.size, 0, none⟩) 1 1) (by first | rfl | simp [Act.eval]) (by first | rfl | simp [Act.eval]) _ _ (HA.out _) ?_))
          go_roundg (40 - (I + 1))
          case measure => omega
          case rel => exact ⟨I + 1, M1, c2, a2, by omega, by omega, HM.out, rfl, by first | rfl | (congr 1), HW2⟩
        · have HF3 : Hid (∀ r, P (.returned r) wr) := fun r => HF.out r wr hF2
          obtain rfl : I = 40 := by omega
          clear HF HI hO2 hF2 hl2 HW hWe hm
          go_wp2_with fail
          go_end0
          exact HF3.out _
/-- Bytes that a call made, and whose block it is. -/
theorem NewB.own {w : World} {v : Value} {l : List By} {V : World} (h : NewB w v l V) : ∃ og : Option Nat, (∀ g, og = some g → w.heap.size ≤ g ∧ g < V.heap.size) ∧ ∀ (X : Nat → Prop) V', Fr X V V' → (∀ g, og = some g → ¬ X g) → Mine (fun k => k < V'.heap.size ∧ og ≠ some k) v l V' := by
  rcases h with ⟨rfl, rfl⟩ | ⟨g, h1, h2⟩
  · exact ⟨none, (fun g h => by cases h), fun X V' _ _ => Mine.nil _ _⟩
  · exact ⟨some g, (fun g' h => by injection h with h; subst h; exact ⟨by omega, h2.lt⟩), fun X V' hV hX => .inr ⟨g, fun hk => hk.2 rfl, h2.kept hV (hX g rfl)⟩⟩
/-- Bytes written full touch their own block alone. -/
theorem full_own {w : World} {og : Option Nat} {v : Value} {l : List By} (h : Mine (fun k => k < w.heap.size ∧ og ≠ some k) v l w) (hl : l.length ≤ 140737488351232) (x : By) (z : Int) (hz : z = x.toNat) :
    Calls Tryd.prog 14 #[v, .int .u8 z] w fun e w' => (∃ r, e = .returned r) ∧ Fr (fun k => og = some k) w w' := by
  subst hz
  refine (full_any (fun k => k < w.heap.size ∧ og ≠ some k) w (fun k hk => hk.1) v l h hl x).mono ?_
  rintro e w' ⟨h1, h2⟩
  refine ⟨h1, h2.mono (fun i hi => ?_)⟩
  by_cases e : og = some i
  · exact .inl e
  · right
    rcases Nat.lt_or_ge i w.heap.size with e2 | e2
    · exact absurd ⟨e2, e⟩ hi
    · exact e2
end Go.Proofs.YtffhpoilifgcdaaDoor

namespace Go.Proofs.YtffhpoilifgcdaaDoor
open Go.RowKit
set_option linter.unusedVariables false
/-! ### The document's Valid -/
set_option maxHeartbeats 8000000 in
set_option maxRecDepth 100000 in
theorem rvalid_any {X : Nat → Prop} (w : World) (a : Option Addr) (n c : Nat) (l : List Rg) (hl : SlR RG X (.slice a n c) l w) (s : Int) :
    Calls Tryd.prog 26 #[.slice a n c, .int .i64 s] w fun e w' => e = .returned (.bool (vld l s)) ∧ Nw w w' := by
  obtain ⟨P, hP⟩ : ∃ P : Ending → World → Prop, P = fun e w' => e = .returned (.bool (vld l s)) ∧ Nw w w' := ⟨_, rfl⟩
  rw [← hP]
  have HF : Hid (∀ B V, vld l s = B → Nw w V → P (.returned (.bool B)) V) := fun B V h1 h2 => by rw [hP, h1]; exact ⟨rfl, h2⟩
  clear hP
  obtain ⟨hln, k1, k2⟩ := slg_len hl
  have HI := tHid hl.inG
  clear hl
  by_cases hs : s < 0
  · have HF2 := tHid (HF.out false w (vld_neg (by omega)) (Fr.refl _ _))
    clear HF HI
    go_enter Tryd.func26, Tryd.ntmps26
    go_wp2_with fail
    first | exact HF2.out | (go_ret; exact HF2.out)
  · by_cases hn : 65536 < n
    · have HF2 := tHid (HF.out false w (vld_long (by omega)) (Fr.refl _ _))
      have hni : (65536 : Int) < (n : Int) := by omega
      clear HF HI
      go_enter Tryd.func26, Tryd.ntmps26
      go_wp2_with fail
      first | exact HF2.out | (go_ret; exact HF2.out)
    · have hni : ¬ (65536 : Int) < (n : Int) := by omega
      have HS : Hid (vld l s = vlE s 0 (l.drop 0)) := by show _ = _; rw [vld_else (by omega) (by omega)]; rfl
      have HLN := tHid hln
      clear hln
      go_enter Tryd.func26, Tryd.ntmps26
      go_upto_region 5 with fail
      go_loopg [5, 6] n (fun kx e i wr => ∃ (I : Nat) (E : Int), I ≤ n ∧ n - I ≤ kx ∧ e = .int .i64 E ∧ i = .int .i64 I ∧ Hid (Nw w wr ∧ vld l s = vlE s E (l.drop I)))
      case atStart => exact ⟨0, 0, by omega, by omega, rfl, rfl, Fr.refl _ _, HS.out⟩
      case round =>
        obtain ⟨I, E, hI, hkx, rfl, rfl, HL⟩ := hrel
        obtain ⟨hN, hE⟩ := HL.out
        by_cases hlt : I < n
        · have hlt' : I < l.length := by have := HLN.out; omega
          obtain ⟨g, o, rfl, x0, x1⟩ := HI.out wr hN I hlt'
          rw [drop_at l I hlt'] at hE
          have HFb : Hid (∀ V, Nw wr V → ¬ (E ≤ l[I].1 ∧ l[I].1 ≤ l[I].2 ∧ l[I].2 ≤ s) → P (.returned (.bool false)) V) := fun V hV hb => HF.out false V (by rw [hE, vlE_bad hb]) (hN.trans hV)
          have HG : Hid (E ≤ l[I].1 → l[I].1 ≤ l[I].2 → l[I].2 ≤ s → vld l s = vlE s l[I].2 (l.drop (I + 1))) := fun h1 h2 h3 => by rw [hE, vlE_step h1 h2 h3]
          have HN : Hid (∀ V, Nw wr V → Nw w V) := fun V hV => hN.trans hV
          clear HF HI HS HL hE hN
          generalize l[I].1 = f at *
          generalize l[I].2 = t at *
          by_cases h1 : f < E
          · have HF2 : Hid (∀ V, Nw wr V → P (.returned (.bool false)) V) := fun V hV => HFb.out V hV (by omega)
            have d1 := decide_eq_true h1
            clear HFb HG
            go_upto_region 7 with fail
            go_quiet (fail)
            go_wp2_with fail
            first | exact HF2.out _ ((Fr.refl _ _).drewN _) | (go_ret; exact HF2.out _ ((Fr.refl _ _).drewN _))
          · have d1 := decide_eq_false h1
            by_cases h2 : t < f
            · have HF2 : Hid (∀ V, Nw wr V → P (.returned (.bool false)) V) := fun V hV => HFb.out V hV (by omega)
              have d2 := decide_eq_true h2
              clear HFb HG
              go_upto_region 7 with fail
              go_quiet (fail)
              go_wp2_with fail
              first | exact HF2.out _ ((Fr.refl _ _).drewN _) | (go_ret; exact HF2.out _ ((Fr.refl _ _).drewN _))
            · have d2 := decide_eq_false h2
              by_cases h3 : s < t
              · have HF2 : Hid (∀ V, Nw wr V → P (.returned (.bool false)) V) := fun V hV => HFb.out V hV (by omega)
                have d3 := decide_eq_true h3
                clear HFb HG
                go_upto_region 7 with fail
                go_quiet (fail)
                go_wp2_with fail
                first | exact HF2.out _ ((Fr.refl _ _).drewN _) | (go_ret; exact HF2.out _ ((Fr.refl _ _).drewN _))
              · have d3 := decide_eq_false h3
                have HG2 := tHid (HG.out (by omega) (by omega) (by omega))
                clear HFb HG
                go_upto_region 7 with fail
                go_quiet (fail)
                go_wp2_with fail
                go_roundg (n - (I + 1))
                case measure => omega
                case rel => exact ⟨I + 1, t, by omega, by omega, rfl, by first | rfl | (congr 1), HN.out _ ((Fr.refl _ _).drewN _), HG2.out⟩
        · have HF2 := tHid (HF.out true wr (by rw [hE, List.drop_eq_nil_of_le (by have := HLN.out; omega)]; rfl) hN)
          obtain rfl : I = n := by omega
          clear HF HI HS HL hE hN
          go_wp2_with fail
          first | exact HF2.out | (go_ret; exact HF2.out)
end Go.Proofs.YtffhpoilifgcdaaDoor

import Derived.Test.YtenkchhlaphocaaDoorNkN
import Derived.Test.YtenkchhlaphocaaDoorNjQ
namespace Go.Proofs.YtenkchhlaphocaaDoor
open Go.RowKit
set_option linter.unusedVariables false
/-! ### Merge: as a function; the document's -/
def ltB (a b : Bs) : Bool := Op.bytesLess (str a).toList (str b).toList
/-- Where a pair goes in: how many stand ahead of it. -/
def plc (x : Pr) : List Pr → Nat
  | [] => 0
  | y :: r => if ltB y.1 x.1 = true then plc x r + 1 else 0
theorem plc_le (x : Pr) (l : List Pr) : plc x l ≤ l.length := by
  induction l with
  | nil => exact Nat.le_refl _
  | cons y r ih =>
    rw [plc]
    split
    · simp; exact ih
    · simp
theorem plc_go (x : Pr) (l : List Pr) (I : Nat) (h : I ≤ plc x l) (hI : I < l.length) (hd : ltB l[I].1 x.1 = true) : I + 1 ≤ plc x l := by
  induction l generalizing I with
  | nil => simp at hI
  | cons y r ih =>
    rw [plc] at h ⊢
    cases I with
    | zero =>
      rw [List.getElem_cons_zero] at hd
      rw [if_pos hd]
      omega
    | succ K =>
      split at h
      · rename_i hy
        rw [if_pos hy]
        have := ih K (by omega) (by simpa using hI) (by simpa using hd)
        omega
      · omega
theorem plc_end (x : Pr) (l : List Pr) (I : Nat) (h : I ≤ plc x l) (hd : ∀ hI : I < l.length, ltB l[I].1 x.1 = false) : I = plc x l := by
  induction l generalizing I with
  | nil => rw [plc] at h ⊢; omega
  | cons y r ih =>
    rw [plc] at h ⊢
    cases I with
    | zero =>
      have := hd (by simp)
      rw [List.getElem_cons_zero] at this
      rw [if_neg (by rw [this]; decide)]
    | succ K =>
      split at h
      · rename_i hy
        rw [if_pos hy]
        have := ih K (by omega) (fun hI => by
          have := hd (by rw [List.length_cons]; omega)
          rw [List.getElem_cons_succ] at this
          exact this)
        omega
      · omega
def insP (x : Pr) (l : List Pr) : List Pr := l.take (plc x l) ++ x :: l.drop (plc x l)
theorem insP_len (x : Pr) (l : List Pr) : (insP x l).length = l.length + 1 := by
  unfold insP
  have := plc_le x l
  rw [List.length_append, List.length_cons, List.length_take, List.length_drop]
  omega
/-- Is a pair its key's last? -/
def lst (x : Pr) (r : List Pr) : Bool := r.all (fun y => decide (y.1 ≠ x.1))
theorem lst_snoc (x : Pr) (r : List Pr) (y : Pr) : lst x (r ++ [y]) = (lst x r && decide (y.1 ≠ x.1)) := by simp [lst]
def mrg : List Pr → List Pr → List Pr
  | [], out => out
  | x :: r, out => if lst x r = true ∧ x.2 ≠ [] then mrg r (insP x out) else mrg r out
def mergeV (b a : List Pr) : List Pr := mrg (b ++ a) []
theorem mrg_step (l : List Pr) (I : Nat) (h : I < l.length) (out : List Pr) : mrg (l.drop I) out = if lst l[I] (l.drop (I + 1)) = true ∧ l[I].2 ≠ [] then mrg (l.drop (I + 1)) (insP l[I] out) else mrg (l.drop (I + 1)) out := by
  rw [List.drop_eq_getElem_cons h, mrg]
theorem tk_step (A : List Pr) (I K : Nat) (h : I + 1 ≤ K) (hK : K < A.length) : (A.drop (I + 1)).take (K + 1 - (I + 1)) = (A.drop (I + 1)).take (K - (I + 1)) ++ [A[K]] := by
  have e : K + 1 - (I + 1) = (K - (I + 1)) + 1 := by omega
  rw [e, List.take_add_one, List.getElem?_drop, show I + 1 + (K - (I + 1)) = K by omega, List.getElem?_eq_getElem hK, Option.toList_some]
/-- A part of a row of pairs. -/
theorem SlR.takeP {X : Nat → Prop} {g o n c : Nat} {l : List Pr} {w : World} (h : SlR RP X (.slice (some ⟨g, o, none⟩) n c) l w) (p : Nat) (hp : p ≤ l.length) : SlR RP X (.slice (some ⟨g, o, none⟩) p c) (l.take p) w := by
  rcases h with ⟨a, e, hl⟩ | ⟨g', o', c', h1, e, h3, h4, h5⟩
  · injection e with e1 e2 e3
    subst hl
    have : p = 0 := by simpa using hp
    subst this e3
    exact .inl ⟨_, rfl, by simp⟩
  · injection e with e1 e2 e3
    injection e1 with e1
    injection e1 with e1 e4 _
    subst e1 e2 e3 e4
    refine .inr ⟨g, o, c, h1, by rw [List.length_take, Nat.min_eq_left hp], by rw [List.length_take]; omega, h4, fun i x j u h6 h7 => ?_⟩
    rw [List.getElem?_take] at h6
    split at h6
    · exact h5 i x j u h6 h7
    · cases h6
theorem SlR.dropP {X : Nat → Prop} {g o n c : Nat} {l : List Pr} {w : World} (h : SlR RP X (.slice (some ⟨g, o, none⟩) n c) l w) (p : Nat) (hp : p ≤ l.length) : SlR RP X (.slice (some ⟨g, o + p * 2, none⟩) (n - p) (c - p)) (l.drop p) w := by
  rcases h with ⟨a, e, hl⟩ | ⟨g', o', c', h1, e, h3, h4, h5⟩
  · injection e with e1 e2 e3
    subst hl
    have : p = 0 := by simpa using hp
    subst this e3 e2
    exact .inl ⟨_, rfl, by simp⟩
  · injection e with e1 e2 e3
    injection e1 with e1
    injection e1 with e1 e4 _
    subst e1 e2 e3 e4
    refine .inr ⟨g, o + p * 2, c - p, h1, by rw [List.length_drop], by rw [List.length_drop]; omega, by omega, fun i x j u h6 h7 => ?_⟩
    rw [List.getElem?_drop] at h6
    have := h5 (p + i) x j u h6 h7
    have e : o + p * 2 + i * RP.k + j = o + (p + i) * RP.k + j := by simp only [RP]; omega
    rw [e]
    exact this
/-- The three appends of an insertion. -/
theorem ins_chain (V : World) (u1 u2 : Value) (l1 l2 : List Pr) (h1 : SlR RP (fun _ => False) u1 l1 V) (h2 : SlR RP (fun _ => False) u2 l2 V) (x : Pr) (hn : l1.length + l2.length ≤ 100000000) :
    ∃ v1 W1 v2 W2 v3 W3, Hid (∀ ty, (Builtin.append_ #[22, 22] ty #[.slice (some ⟨V.heap.size, 0, none⟩) 0 0, u1]).run Tryd.prog (V.alloc (.cells #[] 47)) = .ok v1 W1) ∧ Hid (Nw V W1)
      ∧ Hid (∀ ty, (Builtin.append_ #[22, 22] ty #[v1, .slice (some ⟨W1.heap.size, 0, none⟩) 1 1]).run Tryd.prog (W1.alloc (.cells (prC x) 47)) = .ok v2 W2)
      ∧ Hid (∀ ty, (Builtin.append_ #[22, 22] ty #[v2, u2]).run Tryd.prog W2 = .ok v3 W3)
      ∧ Hid (Nw V W3 ∧ ∃ g, V.heap.size ≤ g ∧ OwR RP g v3 (l1 ++ x :: l2) W3) := by
  have hN0 : Nw V (V.alloc (.cells #[] 47)) := (Fr.refl _ _).alloc _
  have hs0 : (V.alloc (.cells #[] RP.T)).heap.size = V.heap.size + 1 := by simp
  obtain ⟨v1, g1, W1, a1, o1, f1, d1⟩ := owR_app rpOk _ _ _ [] (OwR.empty (R := RP) V) u1 l1 (h1.nw hN0) (by simp only [RP, List.length_nil]; omega) (by simp; omega)
  have hg1 : V.heap.size ≤ g1 := by rcases d1 with e | e <;> omega
  have hN1 : Nw V W1 := hN0.then f1 (fun i hi => .inr (by omega))
  rw [List.nil_append] at o1
  have hNa : Nw W1 (W1.alloc (.cells (prC x) 47)) := (Fr.refl _ _).alloc _
  obtain ⟨v2, g2, W2, a2, o2, f2, d2⟩ := owR_app rpOk _ g1 v1 l1 (o1.nw hNa) _ [x] ((litP W1 x).slr rpOk).anyP (by simp only [RP, List.length_cons, List.length_nil]; omega) (by simp; omega)
  have hsa : (W1.alloc (.cells (prC x) 47)).heap.size = W1.heap.size + 1 := by simp
  have hsz1 := hN1.size
  have hg2 : V.heap.size ≤ g2 := by rcases d2 with e | e <;> omega
  have hN2 : Nw V W2 := (hN1.trans hNa).then f2 (fun i hi => .inr (by omega))
  obtain ⟨v3, g3, W3, a3, o3, f3, d3⟩ := owR_app rpOk W2 g2 v2 _ o2 u2 l2 (h2.nw hN2) (by simp only [RP, List.length_append, List.length_cons, List.length_nil]; omega) (by simp; omega)
  have hsz2 := hN2.size
  have hg3 : V.heap.size ≤ g3 := by rcases d3 with e | e <;> omega
  refine ⟨v1, W1, v2, W2, v3, W3, a1, hN1, a2, a3, hN2.then f3 (fun i hi => .inr (by omega)), g3, hg3, ?_⟩
  rw [List.append_assoc] at o3
  exact o3
theorem copyPP2 (w : World) (v u : Value) (a b : List Pr) (ha : SlR RP (fun _ => False) v a w) (hb : SlR RP (fun _ => False) u b w) (hn : a.length + b.length ≤ 100000000) : ∃ v1 W1 v2 W2, Hid (∀ ty, (Builtin.append_ #[22, 22] ty #[.slice (some ⟨w.heap.size, 0, none⟩) 0 0, v]).run Tryd.prog (w.alloc (.cells #[] 47)) = .ok v1 W1) ∧ Hid (∀ ty, (Builtin.append_ #[22, 22] ty #[v1, u]).run Tryd.prog W1 = .ok v2 W2) ∧ Nw w W2 ∧ SlR RP (fun _ => False) v2 (a ++ b) W2 := by
  have hN0 : Nw w (w.alloc (.cells #[] 47)) := (Fr.refl _ _).alloc _
  obtain ⟨v1, g1, W1, a1, o1, f1, d1⟩ := owR_app rpOk _ _ _ [] (OwR.empty (R := RP) w) v a (ha.nw hN0) (by simp only [RP, List.length_nil]; omega) (by simp; omega)
  have hs0 : (w.alloc (.cells #[] RP.T)).heap.size = w.heap.size + 1 := by simp
  have hN1 : Nw w W1 := hN0.then f1 (fun i hi => .inr (by omega))
  have hg1 : w.heap.size ≤ g1 := by rcases d1 with e | e <;> omega
  obtain ⟨v2, g2, W2, a2, o2, f2, d2⟩ := owR_app rpOk W1 g1 v1 _ o1 u b (hb.nw hN1) (by simp only [RP, List.nil_append]; omega) (by simp; omega)
  exact ⟨v1, W1, v2, W2, a1, a2, hN1.then f2 (fun i hi => .inr (by omega)), by rw [List.nil_append] at o2; exact (o2.slr rpOk).anyP⟩
def MrI (w : World) (A : List Pr) (I : Nat) (v : Value) (out : List Pr) (V : World) : Prop := Nw w V ∧ out.length ≤ I ∧ mrg A [] = mrg (A.drop I) out ∧ ∃ og, OgR RP og v out V ∧ ∀ g, og = some g → w.heap.size ≤ g
set_option maxHeartbeats 16000000 in
set_option maxRecDepth 100000 in
theorem rmerge_any {X Y : Nat → Prop} (w : World) (va vb : Value) (b a : List Pr) (hb : SlR RP X va b w) (ha : SlR RP Y vb a w) (hn : b.length + a.length ≤ 10000000) :
    Calls Tryd.prog 12 #[va, vb] w fun e V => ∃ v, e = .returned v ∧ Hid (Nw w V ∧ ∃ og, OgR RP og v (mergeV b a) V ∧ ∀ g, og = some g → w.heap.size ≤ g) := by
  obtain ⟨P, hP⟩ : ∃ P : Ending → World → Prop, P = fun e V => ∃ v, e = .returned v ∧ Hid (Nw w V ∧ ∃ og, OgR RP og v (mergeV b a) V ∧ ∀ g, og = some g → w.heap.size ≤ g) := ⟨_, rfl⟩
  rw [← hP]
  have HF : Hid (∀ v V, Nw w V → (∃ og, OgR RP og v (mergeV b a) V ∧ ∀ g, og = some g → w.heap.size ≤ g) → P (.returned v) V) := fun v V h1 h2 => by rw [hP]; exact ⟨v, rfl, h1, h2⟩
  clear hP
  obtain ⟨v1, W1, v2, W2, HA1, HA2, hN2, hS2⟩ := copyPP2 w va vb b a hb.anyP ha.anyP (by omega)
  obtain ⟨A, hA⟩ : ∃ A, b ++ a = A := ⟨_, rfl⟩
  have hAl : A.length ≤ 10000000 := by rw [← hA, List.length_append]; exact hn
  unfold mergeV at HF
  rw [hA] at hS2 HF
  obtain ⟨aa, ca, rfl, k1, k2, _⟩ := hS2.form
  obtain ⟨a1, c1, rfl, k3, k4, _⟩ := hb.form
  obtain ⟨a2, c2, rfl, k5, k6, _⟩ := ha.form
  have HS := tHid hS2
  have HN2 := tHid hN2
  clear hb ha hA hS2 hN2
  generalize b.length = nb at *
  generalize a.length = na at *
  go_enter Tryd.func12, Tryd.ntmps12
  go_upto_region 4 with (first
    | (at_builtin; refine Lib.wpList_append_run _ rfl _ _ 22 22 rfl (.slice (some ⟨w.heap.size, 0, none⟩) 0 0) (.slice a1 nb c1) (by first | rfl | simp [Act.eval]) (by first | rfl | simp [Act.eval]) _ _ (HA1.out _) ?_)
    | (at_builtin; refine Lib.wpList_append_run _ rfl _ _ 22 22 rfl v1 (.slice a2 na c2) (by first | rfl | simp [Act.eval]) (by first | rfl | simp [Act.eval]) _ _ (HA2.out _) ?_))
  go_loopg [6, 7] A.length (fun kx v i wr => ∃ (I : Nat) (vo : Value) (out : List Pr), I ≤ A.length ∧ A.length - I ≤ kx ∧ i = .int .i64 I ∧ v = vo ∧ Hid (Nw W2 wr ∧ MrI w A I vo out wr))
  case atStart => exact ⟨0, _, [], by omega, by omega, rfl, rfl, Fr.refl _ _, HN2.out, by simp, by rw [List.drop_zero], none, ⟨rfl, rfl⟩, fun g h => by cases h⟩
  case round =>
    obtain ⟨I, vo, out, hI, hkx, rfl, hvo, HI⟩ := hrel
    have hvo' := hvo.symm
    subst hvo'
    clear hvo
    obtain ⟨hNW, hN, hol, hm, og, hO, hog⟩ := HI.out
    by_cases hlt : I < A.length
    · obtain ⟨ga, oa, rfl, _, _, _⟩ := rp_at (HS.out.nw hNW) I hlt
      have HXA : Hid (∀ V, Nw W2 V → ∀ j (hj : j < A.length), V.cell? ⟨ga, oa + j * 2, none⟩ = some (.string (str (A[j]'hj).1)) ∧ V.cell? ⟨ga, oa + j * 2 + 1, none⟩ = some (.string (str (A[j]'hj).2))) := fun V hV j hj => by
        obtain ⟨g', o', e, _, z0, z1⟩ := rp_at (HS.out.nw hV) j hj
        injection e with e
        injection e with e1 e2 _
        subst e1 e2
        exact ⟨z0, z1⟩
      have hms := mrg_step A I hlt out
      rw [← hm] at hms
      obtain ⟨x, hx⟩ : ∃ x, A[I]'hlt = x := ⟨_, rfl⟩
      rw [hx] at hms
      have hltI : (I : Int) < (A.length : Int) := by omega
      have HMS := tHid hms
      have HO := tHid hO
      have HOG := tHid hog
      have HNW := tHid hNW
      have HN := tHid hN
      have HX := tHid hx
      have HHLT := tHid hlt
      clear HF hms hm hO hog hNW hN HI hx
      go_upto_region 8 with fail
      go_loopg [8, 9] A.length (fun kx q k wrK => ∃ (K : Nat) (B : Bool), I + 1 ≤ K ∧ K ≤ A.length ∧ A.length - K ≤ kx ∧ k = .int .i64 K ∧ q = .bool B ∧ Hid (Nw wr wrK ∧ B = lst x ((A.drop (I + 1)).take (K - (I + 1)))))
      case atStart => exact ⟨I + 1, true, by omega, by omega, by omega, by first | rfl | (congr 1), rfl, Fr.refl _ _, by rw [Nat.sub_self, List.take_zero]; rfl⟩
      case round =>
        obtain ⟨K, B, hK1, hK2, hkk, rfl, rfl, HK⟩ := hrel
        obtain ⟨hNK, hB⟩ := HK.out
        by_cases hKl : K < A.length
        · have htk := tk_step A I K hK1 hKl
          obtain ⟨y0, y1⟩ := HXA.out wr (HNW.out.trans hNK) K hKl
          obtain ⟨x0, x1⟩ := HXA.out wr (HNW.out.trans hNK) I hlt
          rw [HX.out] at x0 x1
          have hKi : (K : Int) < (A.length : Int) := by omega
          have bq := str_beq (A[K]'hKl).1 x.1
          have hl2 := lst_snoc x ((A.drop (I + 1)).take (K - (I + 1))) (A[K]'hKl)
          rw [← htk, ← hB] at hl2
          cases B with
          | false =>
            rw [Bool.false_and] at hl2
            have HK2 : Hid (∀ V, Nw wr V → Nw _ V ∧ false = lst x ((A.drop (I + 1)).take (K + 1 - (I + 1)))) := fun V hV => ⟨hNK.trans hV, hl2.symm⟩
            clear HK hB hNK hl2 htk bq
            generalize str (A[K]'hKl).1 = s1 at *
            generalize str (A[K]'hKl).2 = s3 at *
            generalize str x.1 = s2 at *
            generalize str x.2 = s4 at *
            go_upto_region 10 with fail
            go_quiet (fail)
            go_wp2_with fail
            go_roundg (A.length - (K + 1))
            case measure => omega
            case rel => exact ⟨K + 1, false, by omega, by omega, by omega, by first | rfl | (congr 1), rfl, HK2.out _ ((Fr.refl _ _).drewN _)⟩
          | true =>
            rw [Bool.true_and] at hl2
            by_cases heq : (A[K]'hKl).1 = x.1
            · rw [decide_eq_true heq] at bq
              rw [decide_eq_false (fun h => h heq)] at hl2
              have HK2 : Hid (∀ V, Nw wr V → Nw _ V ∧ false = lst x ((A.drop (I + 1)).take (K + 1 - (I + 1)))) := fun V hV => ⟨hNK.trans hV, hl2.symm⟩
              clear HK hB hNK hl2 htk heq
              generalize str (A[K]'hKl).1 = s1 at *
              generalize str (A[K]'hKl).2 = s3 at *
              generalize str x.1 = s2 at *
              generalize str x.2 = s4 at *
              go_upto_region 10 with fail
              go_quiet (fail)
              go_wp2_with fail
              go_roundg (A.length - (K + 1))
              case measure => omega
              case rel => exact ⟨K + 1, false, by omega, by omega, by omega, by first | rfl | (congr 1), rfl, HK2.out _ ((Fr.refl _ _).drewN _)⟩
            · rw [decide_eq_false heq] at bq
              rw [decide_eq_true heq] at hl2
              have HK2 : Hid (∀ V, Nw wr V → Nw _ V ∧ true = lst x ((A.drop (I + 1)).take (K + 1 - (I + 1)))) := fun V hV => ⟨hNK.trans hV, hl2.symm⟩
              clear HK hB hNK hl2 htk heq
              generalize str (A[K]'hKl).1 = s1 at *
              generalize str (A[K]'hKl).2 = s3 at *
              generalize str x.1 = s2 at *
              generalize str x.2 = s4 at *
              go_upto_region 10 with fail
              go_quiet (fail)
              go_wp2_with fail
              go_roundg (A.length - (K + 1))
              case measure => omega
              case rel => exact ⟨K + 1, true, by omega, by omega, by omega, by first | rfl | (congr 1), rfl, HK2.out _ ((Fr.refl _ _).drewN _)⟩
        · obtain rfl : K = A.length := by omega
          rw [List.take_of_length_le (by rw [List.length_drop]; omega)] at hB
          have hNW2 := HNW.out.trans hNK
          have hN3 := HN.out.trans hNK
          have hO2 := HO.out.nw hNK
          have hm := HMS.out
          rw [← hB] at hm
          obtain ⟨x0, x1⟩ := HXA.out wr hNW2 I hlt
          rw [HX.out] at x0 x1
          have b0 := str_emp x.2
          have b1 := str_emp2 x.2
          cases B with
          | false =>
            rw [if_neg (fun h => by cases h.1)] at hm
            have HI2 : Hid (Nw W2 wr ∧ MrI w A (I + 1) vo out wr) := ⟨hNW2, hN3, by omega, hm, og, hO2, HOG.out⟩
            clear HK hB hNK hm hNW2 hN3 hO2 HMS HO HOG HNW HN b0 b1
            generalize str x.1 = s2 at *
            generalize str x.2 = s4 at *
            go_wp2_with fail
            go_roundg (A.length - (I + 1))
            case measure => omega
            case rel => exact ⟨I + 1, vo, out, by omega, by omega, by first | rfl | (congr 1), rfl, HI2⟩
          | true =>
            by_cases hv : x.2 = []
            · rw [if_neg (fun h => h.2 hv)] at hm
              rw [decide_eq_true hv] at b0 b1
              have HI2 : Hid (Nw W2 wr ∧ MrI w A (I + 1) vo out wr) := ⟨hNW2, hN3, by omega, hm, og, hO2, HOG.out⟩
              clear HK hB hNK hm hNW2 hN3 hO2 HMS HO HOG HNW HN
              generalize str x.1 = s2 at *
              generalize str x.2 = s4 at *
              go_wp2_with fail
              go_roundg (A.length - (I + 1))
              case measure => omega
              case rel => exact ⟨I + 1, vo, out, by omega, by omega, by first | rfl | (congr 1), rfl, HI2⟩
            · rw [if_pos ⟨rfl, hv⟩] at hm
              rw [decide_eq_false hv] at b0 b1
              have HM2 := tHid hm
              have HNW2 := tHid hNW2
              have HN3 := tHid hN3
              have hpl := plc_le x out
              clear HK hB hNK hm hNW2 hN3 HMS HO HNW HN hv
              cases og with
              | none =>
                obtain ⟨rfl, rfl⟩ := hO2
                obtain ⟨s2, hs2⟩ : ∃ s, str x.1 = s := ⟨_, rfl⟩
                obtain ⟨s4, hs4⟩ : ∃ s, str x.2 = s := ⟨_, rfl⟩
                rw [hs2] at x0
                rw [hs4] at x1 b0 b1
                have HS2 := tHid hs2
                have HS4 := tHid hs4
                clear hs2 hs4
                go_upto_region 13 with fail
                go_loopg [10] 1 (fun kx v wrJ => v = .int .i64 0 ∧ Hid (Nw wr wrJ))
                case atStart => exact ⟨rfl, Fr.refl _ _⟩
                case round =>
                  obtain ⟨rfl, HJ⟩ := hrel
                  have hNJ := HJ.out
                  obtain ⟨z0, z1⟩ := HXA.out wr (HNW2.out.trans hNJ) I hlt
                  rw [HX.out] at z0 z1
                  rw [HS2.out] at z0
                  rw [HS4.out] at z1
                  have hNV := HNW2.out.trans hNJ
                  clear x0 x1
                  go_upto_region 13 with fail
                  go_quiet (fail)
                  go_upto_region 15 with fail
                  obtain ⟨V, hV⟩ : ∃ V, wr.drewN nq = V := ⟨_, rfl⟩
                  have hNrV : Nw wr V := by rw [← hV]; exact (Fr.refl _ _).drewN _
                  rw [hV]
                  have hN2V := hNV.trans hNrV
                  have hNwV := (HN3.out.trans hNJ).trans hNrV
                  have hszV := hNwV.size
                  have hp1 : SlR RP (fun _ => False) (.slice none 0 0) [] V := .inl ⟨none, rfl, rfl⟩
                  have hp2 : SlR RP (fun _ => False) (.slice none 0 0) [] V := .inl ⟨none, rfl, rfl⟩
                  obtain ⟨v3, W3, v4, W4, v5, W5, R1, N1, R2, R3, HE⟩ := ins_chain V _ _ _ _ hp1 hp2 x (by simp)
                  obtain ⟨xa, xb⟩ := HXA.out W3 (hN2V.trans N1.out) I hlt
                  rw [HX.out] at xa xb
                  rw [HS2.out] at xa
                  rw [HS4.out] at xb
                  rw [show prC x = #[.string s2, .string s4] from by unfold prC; rw [HS2.out, HS4.out]] at R2
                  have HI2 : Hid (Nw W2 W5 ∧ MrI w A (I + 1) v5 (insP x []) W5) := by
                    obtain ⟨e1, g5, e2, e3⟩ := HE.out
                    refine ⟨hN2V.trans e1, hNwV.trans e1, by rw [insP_len]; omega, HM2.out, some g5, ?_, fun g h => by injection h with h; omega⟩
                    show OwR RP g5 v5 (insP x []) W5
                    exact e3
                  clear hV hNrV hN2V hNwV hszV hp1 hp2 HE HJ hNJ hNV z0 z1
                  go_wp2_with (first
                    | (at_builtin; refine Lib.wpList_append_run _ rfl _ _ 22 22 rfl (.slice (some ⟨V.heap.size, 0, none⟩) 0 0) (.slice none 0 0) (by first | rfl | simp [Act.eval]) (by first | rfl | simp [Act.eval]) _ _ (R1.out _) ?_)
                    | (at_builtin; refine Lib.wpList_append_run _ rfl _ _ 22 22 rfl v3 (.slice (some ⟨W3.heap.size, 0, none⟩) 1 1) (by first | rfl | simp [Act.eval]) (by first | rfl | simp [Act.eval]) _ _ (R2.out _) ?_)
                    | (at_builtin; refine Lib.wpList_append_run _ rfl _ _ 22 22 rfl v4 (.slice none 0 0) (by first | rfl | simp [Act.eval]) (by first | rfl | simp [Act.eval]) _ _ (R3.out _) ?_))
                  go_roundg (A.length - (I + 1))
                  case measure => omega
                  case rel => exact ⟨I + 1, v5, insP x [], by omega, by omega, by first | rfl | (congr 1), rfl, HI2⟩
              | some g =>
                obtain ⟨c, rfl, k7, k8⟩ := OwR.form (R := RP) hO2
                have HO2 := tHid (OwR.slr rpOk hO2)
                clear hO2
                obtain ⟨s2, hs2⟩ : ∃ s, str x.1 = s := ⟨_, rfl⟩
                obtain ⟨s4, hs4⟩ : ∃ s, str x.2 = s := ⟨_, rfl⟩
                rw [hs2] at x0
                rw [hs4] at x1 b0 b1
                have HS2 := tHid hs2
                have HS4 := tHid hs4
                clear hs2 hs4
                go_upto_region 13 with fail
                go_loopg [10] out.length (fun kx v wrJ => ∃ J : Nat, J ≤ plc x out ∧ out.length - J ≤ kx ∧ v = .int .i64 J ∧ Hid (Nw wr wrJ))
                case atStart => exact ⟨0, by omega, by omega, rfl, Fr.refl _ _⟩
                case round =>
                  obtain ⟨J, hJ, hkj, rfl, HJ⟩ := hrel
                  have hNJ := HJ.out
                  obtain ⟨z0, z1⟩ := HXA.out wr (HNW2.out.trans hNJ) I hlt
                  rw [HX.out] at z0 z1
                  rw [HS2.out] at z0
                  rw [HS4.out] at z1
                  by_cases hjl : J < out.length
                  · obtain ⟨g', o', e, _, y0, y1⟩ := rp_at (HO2.out.nw hNJ) J hjl
                    injection e with e
                    injection e with e1 e2 _
                    subst e1 e2
                    rw [Nat.zero_add] at y0 y1
                    have hJi : (J : Int) < (out.length : Int) := by omega
                    have hbl : Op.bytesLess (str (out[J]'hjl).1).toList (str x.1).toList = ltB (out[J]'hjl).1 x.1 := rfl
                    rw [HS2.out] at hbl
                    cases hb : ltB (out[J]'hjl).1 x.1 with
                    | true =>
                      rw [hb] at hbl
                      have hJ2 := plc_go x out J hJ hjl hb
                      have HJ2 : Hid (∀ V, Nw wr V → Nw _ V) := fun V hV => hNJ.trans hV
                      clear hb HJ hNJ x0 x1
                      generalize str (out[J]'hjl).1 = s5 at *
                      generalize str (out[J]'hjl).2 = s6 at *
                      go_upto_region 13 with fail
                      go_quiet (fail)
                      go_wp2_with fail
                      go_roundg (out.length - (J + 1))
                      case measure => omega
                      case rel => exact ⟨J + 1, hJ2, by omega, by first | rfl | (congr 1), HJ2.out _ ((Fr.refl _ _).drewN _)⟩
                    | false =>
                      rw [hb] at hbl
                      have HJE := tHid (plc_end x out J hJ (fun _ => hb))
                      have hNV := HNW2.out.trans hNJ
                      clear hb x0 x1
                      generalize str (out[J]'hjl).1 = s5 at *
                      generalize str (out[J]'hjl).2 = s6 at *
                      go_upto_region 13 with fail
                      go_quiet (fail)
                      go_upto_region 15 with fail
                      obtain ⟨V, hV⟩ : ∃ V, wr.drewN nq = V := ⟨_, rfl⟩
                      have hNrV : Nw wr V := by rw [← hV]; exact (Fr.refl _ _).drewN _
                      rw [hV]
                      have hN2V := hNV.trans hNrV
                      have hNwV := (HN3.out.trans hNJ).trans hNrV
                      have hszV := hNwV.size
                      have hp1 := SlR.takeP ((HO2.out.nw hNJ).nw hNrV).anyP J (by omega)
                      have hp2 := SlR.dropP ((HO2.out.nw hNJ).nw hNrV).anyP J (by omega)
                      rw [Nat.zero_add] at hp2
                      obtain ⟨v3, W3, v4, W4, v5, W5, R1, N1, R2, R3, HE⟩ := ins_chain V _ _ _ _ hp1 hp2 x (by rw [List.length_take, List.length_drop]; omega)
                      obtain ⟨xa, xb⟩ := HXA.out W3 (hN2V.trans N1.out) I hlt
                      rw [HX.out] at xa xb
                      rw [HS2.out] at xa
                      rw [HS4.out] at xb
                      rw [show prC x = #[.string s2, .string s4] from by unfold prC; rw [HS2.out, HS4.out]] at R2
                      have HI2 : Hid (Nw W2 W5 ∧ MrI w A (I + 1) v5 (insP x out) W5) := by
                        obtain ⟨e1, g5, e2, e3⟩ := HE.out
                        refine ⟨hN2V.trans e1, hNwV.trans e1, by rw [insP_len]; omega, HM2.out, some g5, ?_, fun g h => by injection h with h; omega⟩
                        unfold insP
                        rw [← HJE.out]
                        exact e3
                      clear hV hNrV hN2V hNwV hszV hp1 hp2 HE HJ hNJ hNV z0 z1
                      go_wp2_with (first
                        | (at_builtin; refine Lib.wpList_append_run _ rfl _ _ 22 22 rfl (.slice (some ⟨V.heap.size, 0, none⟩) 0 0) (.slice (some ⟨g, 0, none⟩) J c) (by first | rfl | simp [Act.eval]) (by first | rfl | simp [Act.eval]) _ _ (R1.out _) ?_)
                        | (at_builtin; refine Lib.wpList_append_run _ rfl _ _ 22 22 rfl v3 (.slice (some ⟨W3.heap.size, 0, none⟩) 1 1) (by first | rfl | simp [Act.eval]) (by first | rfl | simp [Act.eval]) _ _ (R2.out _) ?_)
                        | (at_builtin; refine Lib.wpList_append_run _ rfl _ _ 22 22 rfl v4 (.slice (some ⟨g, J * 2, none⟩) (out.length - J) (c - J)) (by first | rfl | simp [Act.eval]) (by first | rfl | simp [Act.eval]) _ _ (R3.out _) ?_))
                      go_roundg (A.length - (I + 1))
                      case measure => omega
                      case rel => exact ⟨I + 1, v5, insP x out, by omega, by omega, by first | rfl | (congr 1), rfl, HI2⟩
                  · have HJE := tHid (plc_end x out J hJ (fun h => absurd h hjl))
                    have hNV := HNW2.out.trans hNJ
                    have hJd : decide ((J : Int) < (out.length : Int)) = false := decide_eq_false (by omega)
                    clear x0 x1
                    go_upto_region 13 with fail
                    go_quiet (fail)
                    by_cases hcJ : c = J
                    · have HCJ := tHid hcJ
                      clear hcJ
                      go_upto_region 15 with fail
                      obtain ⟨V, hV⟩ : ∃ V, wr.drewN nq = V := ⟨_, rfl⟩
                      have hNrV : Nw wr V := by rw [← hV]; exact (Fr.refl _ _).drewN _
                      rw [hV]
                      have hN2V := hNV.trans hNrV
                      have hNwV := (HN3.out.trans hNJ).trans hNrV
                      have hszV := hNwV.size
                      have hp1 := SlR.takeP ((HO2.out.nw hNJ).nw hNrV).anyP J (by omega)
                      have hp2 : SlR RP (fun _ => False) (.slice (some ⟨g, 0, none⟩) (out.length - J) (c - J)) (out.drop J) V := .inl ⟨_, by rw [show out.length - J = 0 by omega, show c - J = 0 by have := HCJ.out; omega], List.drop_of_length_le (by omega)⟩
                      obtain ⟨v3, W3, v4, W4, v5, W5, R1, N1, R2, R3, HE⟩ := ins_chain V _ _ _ _ hp1 hp2 x (by rw [List.length_take, List.length_drop]; omega)
                      obtain ⟨xa, xb⟩ := HXA.out W3 (hN2V.trans N1.out) I hlt
                      rw [HX.out] at xa xb
                      rw [HS2.out] at xa
                      rw [HS4.out] at xb
                      rw [show prC x = #[.string s2, .string s4] from by unfold prC; rw [HS2.out, HS4.out]] at R2
                      have HI2 : Hid (Nw W2 W5 ∧ MrI w A (I + 1) v5 (insP x out) W5) := by
                        obtain ⟨e1, g5, e2, e3⟩ := HE.out
                        refine ⟨hN2V.trans e1, hNwV.trans e1, by rw [insP_len]; omega, HM2.out, some g5, ?_, fun g h => by injection h with h; omega⟩
                        unfold insP
                        rw [← HJE.out]
                        exact e3
                      clear hV hNrV hN2V hNwV hszV hp1 hp2 HE HJ hNJ hNV z0 z1
                      go_wp2_with (first
                        | (at_builtin; refine Lib.wpList_append_run _ rfl _ _ 22 22 rfl (.slice (some ⟨V.heap.size, 0, none⟩) 0 0) (.slice (some ⟨g, 0, none⟩) J c) (by first | rfl | simp [Act.eval]) (by first | rfl | simp [Act.eval]) _ _ (R1.out _) ?_)
                        | (at_builtin; refine Lib.wpList_append_run _ rfl _ _ 22 22 rfl v3 (.slice (some ⟨W3.heap.size, 0, none⟩) 1 1) (by first | rfl | simp [Act.eval]) (by first | rfl | simp [Act.eval]) _ _ (R2.out _) ?_)
                        | (at_builtin; refine Lib.wpList_append_run _ rfl _ _ 22 22 rfl v4 (.slice (some ⟨g, 0, none⟩) (out.length - J) (c - J)) (by first | rfl | simp [Act.eval]) (by first | rfl | (simp [Act.eval]; done) | simp [Act.eval, HCJ.out]) _ _ (R3.out _) ?_))
                      go_roundg (A.length - (I + 1))
                      case measure => omega
                      case rel => exact ⟨I + 1, v5, insP x out, by omega, by omega, by first | rfl | (congr 1), rfl, HI2⟩
                    · have HCJ := tHid hcJ
                      clear hcJ
                      go_upto_region 15 with fail
                      obtain ⟨V, hV⟩ : ∃ V, wr.drewN nq = V := ⟨_, rfl⟩
                      have hNrV : Nw wr V := by rw [← hV]; exact (Fr.refl _ _).drewN _
                      rw [hV]
                      have hN2V := hNV.trans hNrV
                      have hNwV := (HN3.out.trans hNJ).trans hNrV
                      have hszV := hNwV.size
                      have hp1 := SlR.takeP ((HO2.out.nw hNJ).nw hNrV).anyP J (by omega)
                      have hp2 := SlR.dropP ((HO2.out.nw hNJ).nw hNrV).anyP J (by omega)
                      rw [Nat.zero_add] at hp2
                      obtain ⟨v3, W3, v4, W4, v5, W5, R1, N1, R2, R3, HE⟩ := ins_chain V _ _ _ _ hp1 hp2 x (by rw [List.length_take, List.length_drop]; omega)
                      obtain ⟨xa, xb⟩ := HXA.out W3 (hN2V.trans N1.out) I hlt
                      rw [HX.out] at xa xb
                      rw [HS2.out] at xa
                      rw [HS4.out] at xb
                      rw [show prC x = #[.string s2, .string s4] from by unfold prC; rw [HS2.out, HS4.out]] at R2
                      have HI2 : Hid (Nw W2 W5 ∧ MrI w A (I + 1) v5 (insP x out) W5) := by
                        obtain ⟨e1, g5, e2, e3⟩ := HE.out
                        refine ⟨hN2V.trans e1, hNwV.trans e1, by rw [insP_len]; omega, HM2.out, some g5, ?_, fun g h => by injection h with h; omega⟩
                        unfold insP
                        rw [← HJE.out]
                        exact e3
                      clear hV hNrV hN2V hNwV hszV hp1 hp2 HE HJ hNJ hNV z0 z1
                      go_wp2_with (first
                        | (at_builtin; refine Lib.wpList_append_run _ rfl _ _ 22 22 rfl (.slice (some ⟨V.heap.size, 0, none⟩) 0 0) (.slice (some ⟨g, 0, none⟩) J c) (by first | rfl | simp [Act.eval]) (by first | rfl | simp [Act.eval]) _ _ (R1.out _) ?_)
                        | (at_builtin; refine Lib.wpList_append_run _ rfl _ _ 22 22 rfl v3 (.slice (some ⟨W3.heap.size, 0, none⟩) 1 1) (by first | rfl | simp [Act.eval]) (by first | rfl | simp [Act.eval]) _ _ (R2.out _) ?_)
                        | (at_builtin; refine Lib.wpList_append_run _ rfl _ _ 22 22 rfl v4 (.slice (some ⟨g, J * 2, none⟩) (out.length - J) (c - J)) (by first | rfl | simp [Act.eval]) (by first | rfl | (simp [Act.eval]; done) | simp [Act.eval, HCJ.out]) _ _ (R3.out _) ?_))
                      go_roundg (A.length - (I + 1))
                      case measure => omega
                      case rel => exact ⟨I + 1, v5, insP x out, by omega, by omega, by first | rfl | (congr 1), rfl, HI2⟩
    · obtain rfl : I = A.length := by omega
      have hd : A.drop A.length = [] := by simp
      rw [hd, mrg] at hm
      have HF2 := tHid (HF.out vo wr hN (by rw [hm]; exact ⟨og, hO, hog⟩))
      clear HF HI hN hNW hm hO hog
      go_wp2_with fail
      first | exact HF2.out | (go_ret; exact HF2.out)
end Go.Proofs.YtenkchhlaphocaaDoor

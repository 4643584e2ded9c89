import Derived.Test.YtffhpoilifgcdaaDoorVal
import Derived.Laws.EntriesVeiled
namespace Go.Proofs.YtffhpoilifgcdaaDoor
open Go.RowKit
set_option linter.unusedVariables false
/-- A list of ranges that a call made. -/
def NewG (w : World) (v : Value) (l : List Rg) (V : World) : Prop := ∃ og, OgR RG og v l V ∧ ∀ g, og = some g → w.heap.size ≤ g
theorem NewG.nw {w : World} {v : Value} {l : List Rg} {V V' : World} (h : NewG w v l V) (f : Nw V V') : NewG w v l V' := by
  obtain ⟨og, h1, h2⟩ := h
  exact ⟨og, h1.nw f, h2⟩
theorem NewG.slr {w : World} {v : Value} {l : List Rg} {V : World} (h : NewG w v l V) : SlR RG (fun _ => False) v l V := by
  obtain ⟨og, h1, h2⟩ := h
  exact (h1.slr rgOk).anyG
/-- What Find answers. -/
def FdA (w : World) (b : List By) (n : Nat) (e : Ending) (V : World) : Prop := ∃ a m c l, e = .returned (.slice a m c) ∧ Hid (Nw w V ∧ Fnd b n l ∧ l.length = m ∧ NewG w (.slice a m c) (rgL l) V)
end Go.Proofs.YtffhpoilifgcdaaDoor

namespace Go.Proofs.YtffhpoilifgcdaaDoor
open Go.RowKit
set_option linter.unusedVariables false
/-! ### Lists of ranges compared; copies -/
theorem rg_at {X : Nat → Prop} {a : Option Addr} {n c : Nat} {l : List Rg} {w : World} (h : SlR RG X (.slice a n c) l w) (i : Nat) (hx : i < l.length) : ∃ g o, a = some ⟨g, o, none⟩ ∧ ¬ X g ∧ w.cell? ⟨g, o + i * 2, none⟩ = some (.int .i64 (l[i]'hx).1) ∧ w.cell? ⟨g, o + i * 2 + 1, none⟩ = some (.int .i64 (l[i]'hx).2) := by
  obtain ⟨g, o, e, hg, hc⟩ := h.at i l[i] (List.getElem?_eq_getElem hx)
  have h0 := hc 0 _ rfl
  have h1 := hc 1 _ rfl
  simp only [RG, Nat.add_zero] at h0 h1
  exact ⟨g, o, e, hg, h0, h1⟩
theorem eqG_upto (l m : List Rg) (k : Nat) (h : l.length = m.length) (hk : k ≤ l.length) (he : ∀ j, j < k → l[j]? = m[j]?) (hd : k = l.length) : l = m := by
  apply List.ext_getElem?
  intro i
  by_cases hi : i < k
  · exact he i hi
  · rw [List.getElem?_eq_none (by omega), List.getElem?_eq_none (by omega)]
set_option maxHeartbeats 8000000 in
set_option maxRecDepth 100000 in
theorem ranges_any {X Y : Nat → Prop} (w : World) (va vb : Value) (l m : List Rg) (hl : SlR RG X va l w) (hm : SlR RG Y vb m w) :
    Calls Tryd.prog 12 #[va, vb] w fun e w' => e = .returned (.bool (decide (l = m))) ∧ Nw w w' := by
  obtain ⟨P, hP⟩ : ∃ P : Ending → World → Prop, P = fun e w' => e = .returned (.bool (decide (l = m))) ∧ Nw w w' := ⟨_, rfl⟩
  rw [← hP]
  have HF : Hid (∀ B V, decide (l = m) = B → Nw w V → P (.returned (.bool B)) V) := fun B V h1 h2 => by rw [hP, h1]; exact ⟨rfl, h2⟩
  clear hP
  obtain ⟨a1, c1, rfl, k1, k2, _⟩ := hl.form
  obtain ⟨a2, c2, rfl, k3, k4, _⟩ := hm.form
  have HI1 := tHid hl
  have HI2 := tHid hm
  clear hl hm
  by_cases hne : l.length = m.length
  · have HS : Hid (∀ k, k ≤ l.length → (∀ j, j < k → l[j]? = m[j]?) → k = l.length → l = m) := fun k hk he hd => eqG_upto l m k hne hk he hd
    have HM : Hid (l.length = m.length) := hne
    rw [← hne] at k3 ⊢
    clear hne
    go_enter Tryd.func12, Tryd.ntmps12
    go_upto_region 4 with fail
    go_loopg [5] l.length (fun kx i wr => ∃ (I : Nat), I ≤ l.length ∧ l.length - I ≤ kx ∧ i = .int .i64 I ∧ Hid (Nw w wr ∧ ∀ j, j < I → l[j]? = m[j]?))
    case atStart => exact ⟨0, by omega, by omega, rfl, Fr.refl _ _, fun j hj => by omega⟩
    case round =>
      obtain ⟨I, hI, hkx, rfl, HI⟩ := hrel
      obtain ⟨hN, hE⟩ := HI.out
      by_cases hlt : I < l.length
      · have hlt2 : I < m.length := by have := HM.out; omega
        obtain ⟨g1, o1, rfl, _, x0, x1⟩ := rg_at (HI1.out.nw hN) I hlt
        obtain ⟨g2, o2, rfl, _, y0, y1⟩ := rg_at (HI2.out.nw hN) I hlt2
        have hz : (I : Int) < (l.length : Int) := by omega
        by_cases heq : l[I] = m[I]
        · have HN : Hid (∀ V, Nw wr V → Nw w V ∧ ∀ j, j < I + 1 → l[j]? = m[j]?) := fun V hV => ⟨hN.trans hV, fun j hj => by
            by_cases hj' : j < I
            · exact hE j hj'
            · obtain rfl : j = I := by omega
              rw [List.getElem?_eq_getElem hlt, List.getElem?_eq_getElem hlt2, heq]⟩
          rw [← heq] at y0 y1
          clear HF HS HI hN hE heq HM
          generalize l[I].1 = s1 at *
          generalize l[I].2 = s2 at *
          generalize l.length = L at *
          go_upto_region 6 with fail
          go_quiet (fail)
          go_wp2_with fail
          go_roundg (L - (I + 1))
          case measure => omega
          case rel => exact ⟨I + 1, by omega, by omega, by first | rfl | (congr 1), HN.out _ ((Fr.refl _ _).drewN _)⟩
        · have HF2 : Hid (∀ V, Nw wr V → P (.returned (.bool false)) V) := fun V hV => HF.out false V (decide_eq_false (fun e => heq (by
            have := congrArg (fun q => q[I]?) e
            simp only [List.getElem?_eq_getElem hlt, List.getElem?_eq_getElem hlt2] at this
            injection this))) (hN.trans hV)
          by_cases hk : l[I].1 = m[I].1
          · have hv : ¬ l[I].2 = m[I].2 := fun e => heq (Prod.ext hk e)
            rw [← hk] at y0
            clear HF HS HI hN hE heq HM hk
            generalize l[I].1 = s1 at *
            generalize l[I].2 = s2 at *
            generalize m[I].2 = t2 at *
            have hv2 : (s2 == t2) = false := by rw [beq_eq_false_iff_ne]; exact hv
            go_upto_region 6 with fail
            go_quiet (fail)
            go_wp2_with fail
            first | exact HF2.out _ ((Fr.refl _ _).drewN _) | (go_ret; exact HF2.out _ ((Fr.refl _ _).drewN _))
          · clear HF HS HI hN hE heq HM
            generalize l[I].1 = s1 at *
            generalize l[I].2 = s2 at *
            generalize m[I].1 = t1 at *
            generalize m[I].2 = t2 at *
            have hv2 : (s1 == t1) = false := by rw [beq_eq_false_iff_ne]; exact hk
            go_upto_region 6 with fail
            go_quiet (fail)
            go_wp2_with fail
            first | exact HF2.out _ ((Fr.refl _ _).drewN _) | (go_ret; exact HF2.out _ ((Fr.refl _ _).drewN _))
      · have HF2 := tHid (HF.out true wr (decide_eq_true (HS.out I hI hE (by omega))) hN)
        obtain rfl : I = l.length := by omega
        clear HF HS HI hN hE HM
        go_wp2_with fail
        first | exact HF2.out | (go_ret; exact HF2.out)
  · have HF2 := tHid (HF.out false w (decide_eq_false (fun e => hne (by rw [e]))) (Fr.refl _ _))
    have hni : ¬ ((l.length : Int) = (m.length : Int)) := by omega
    clear HF
    go_enter Tryd.func12, Tryd.ntmps12
    go_wp2_with fail
    first | exact HF2.out | (go_ret; exact HF2.out)
/-- append([]byte{}, b...). -/
theorem copyX (w : World) (v : Value) (b : List By) (hb : Sl (fun _ => False) v b w) (hn : b.length ≤ 1000000000) : ∃ g c W, Hid (∀ ty, (Builtin.append_ #[23, 23] ty #[.slice (some ⟨w.heap.size, 0, none⟩) 0 0, v]).run Tryd.prog (w.alloc (.cells #[] 5)) = .ok (.slice (some ⟨g, 0, none⟩) b.length c) W) ∧ Ow g (.slice (some ⟨g, 0, none⟩) b.length c) b W ∧ Nw w W ∧ w.heap.size ≤ g := by
  have hN0 : Nw w (w.alloc (.cells #[] 5)) := (Fr.refl _ _).alloc _
  obtain ⟨v1, g1, W1, a1, o1, f1, d1⟩ := app_any _ _ _ [] (Ow.empty w) v b (hb.nw hN0) (by simp; omega)
  rw [List.nil_append] at o1
  obtain ⟨xs, rfl, q2, q3, q4, q5⟩ := id o1
  refine ⟨g1, xs.length, W1, a1, o1, hN0.then f1 (fun i hi => .inr (by omega)), ?_⟩
  rcases d1 with e | e
  · omega
  · simp at e; omega
end Go.Proofs.YtffhpoilifgcdaaDoor

namespace Go.Proofs.YtffhpoilifgcdaaDoor
open Go.RowKit
set_option linter.unusedVariables false
/-! ### The document's Find: holes marked, then ranges -/
theorem run_short {b : List By} {n I J : Nat} (hb : I = 0 ∨ ∃ x, b[I - 1]? = some x ∧ x ≠ 0#8) (he : b.length ≤ J ∨ ∃ x, b[J]? = some x ∧ x ≠ 0#8) (hn : ¬ n ≤ J - I) (j : Nat) (h1 : I ≤ j) (h2 : j < J) : ¬ InH b n j := by
  rintro ⟨p, q, a1, a2, a3, a4, a5⟩
  have hp : I ≤ p := by
    rcases Nat.lt_or_ge p I with e | e
    · rcases hb with e2 | ⟨x, e2, e3⟩
      · omega
      · have := a5 (I - 1) (by omega) (by omega)
        rw [e2] at this
        injection this with e4
        exact absurd e4 e3
    · exact e
  have hq : q ≤ J := by
    rcases Nat.lt_or_ge J q with e | e
    · rcases he with e2 | ⟨x, e2, e3⟩
      · omega
      · have := a5 J (by omega) e
        rw [e2] at this
        injection this with e4
        exact absurd e4 e3
    · exact e
  omega
structure HolI (b : List By) (n I : Nat) (hs : List Bool) : Prop where
  len : hs.length = b.length
  ib : I ≤ b.length
  mem : ∀ j, j < b.length → (hs[j]? = some true ↔ j < I ∧ InH b n j)
  bnd : I = 0 ∨ b.length ≤ I ∨ (∃ x, b[I]? = some x ∧ x ≠ 0#8) ∨ (∃ x, b[I - 1]? = some x ∧ x ≠ 0#8)
theorem HolI.start (b : List By) (n : Nat) : HolI b n 0 (List.replicate b.length false) :=
  ⟨by simp, Nat.zero_le _, fun j hj => by simp [hj], .inl rfl⟩
/-- Zeros from I to J, as far as they go. -/
structure ZrI (b : List By) (I J : Nat) : Prop where
  ij : I ≤ J
  jb : J ≤ b.length
  z : ∀ j, I ≤ j → j < J → b[j]? = some 0#8
theorem ZrI.left {b : List By} {n I J : Nat} {hs : List Bool} (h : HolI b n I hs) (hz : ZrI b I J) (hIJ : I < J) : I = 0 ∨ ∃ x, b[I - 1]? = some x ∧ x ≠ 0#8 := by
  have hjb := hz.jb
  rcases h.bnd with e | e | ⟨x, e1, e2⟩ | e
  · exact .inl e
  · omega
  · have := hz.z I (Nat.le_refl _) hIJ
    rw [e1] at this
    injection this with e3
    exact absurd e3 e2
  · exact .inr e
theorem HolI.long {b : List By} {n I J : Nat} {hs hs' : List Bool} (h : HolI b n I hs) (hz : ZrI b I J) (hn : n ≤ J - I) (h1 : 1 ≤ n) (he : J = b.length ∨ ∃ x, b[J]? = some x ∧ x ≠ 0#8) (hl : hs'.length = hs.length) (hs2 : ∀ j, hs'[j]? = if I ≤ j ∧ j < J then some true else hs[j]?) : HolI b n J hs' := by
  have hij := hz.ij
  refine ⟨by rw [hl, h.len], hz.jb, fun j hj => ?_, ?_⟩
  · rw [hs2]
    by_cases c : I ≤ j ∧ j < J
    · rw [if_pos c]
      exact ⟨fun _ => ⟨c.2, I, J, c.1, c.2, hz.jb, hn, hz.z⟩, fun _ => rfl⟩
    · rw [if_neg c, h.mem j hj]
      exact ⟨fun ⟨e1, e2⟩ => ⟨by omega, e2⟩, fun ⟨e1, e2⟩ => ⟨by omega, e2⟩⟩
  · rcases he with e | e
    · exact .inr (.inl (by omega))
    · exact .inr (.inr (.inl e))
theorem HolI.short {b : List By} {n I J : Nat} {hs : List Bool} (h : HolI b n I hs) (hz : ZrI b I J) (hIJ : I < J) (hn : ¬ n ≤ J - I) (he : J = b.length ∨ ∃ x, b[J]? = some x ∧ x ≠ 0#8) : HolI b n J hs := by
  refine ⟨h.len, hz.jb, fun j hj => ?_, ?_⟩
  · rw [h.mem j hj]
    constructor
    · exact fun ⟨e1, e2⟩ => ⟨by omega, e2⟩
    · rintro ⟨e1, e2⟩
      refine ⟨?_, e2⟩
      rcases Nat.lt_or_ge j I with e | e
      · exact e
      · exact absurd e2 (run_short (hz.left h hIJ) (he.elim (fun e => .inl (by omega)) .inr) hn j e e1)
  · rcases he with e | e
    · exact .inr (.inl (by omega))
    · exact .inr (.inr (.inl e))
theorem HolI.byte {b : List By} {n I : Nat} {hs : List Bool} (h : HolI b n I hs) (hI : I < b.length) (hx : b[I] ≠ 0#8) : HolI b n (I + 1) hs := by
  have hxI : b[I]? = some b[I] := List.getElem?_eq_getElem hI
  refine ⟨h.len, by omega, fun j hj => ?_, .inr (.inr (.inr ⟨b[I], by simp [hxI], hx⟩))⟩
  rw [h.mem j hj]
  constructor
  · exact fun ⟨e1, e2⟩ => ⟨by omega, e2⟩
  · rintro ⟨e1, e2⟩
    refine ⟨?_, e2⟩
    rcases Nat.lt_or_ge j I with e | e
    · exact e
    · obtain rfl : j = I := by omega
      exact absurd e2 (nz_not hxI hx)
/-- The ranges so far. -/
structure ArI (b : List By) (n I : Nat) (l : List (Nat × Nat)) : Prop where
  ib : I ≤ b.length
  rise : Gaps l
  each : ∀ x ∈ l, x.1 < x.2 ∧ x.2 ≤ I
  mem : ∀ j, j < I → (Cov l j ↔ ¬ InH b n j)
theorem ArI.start (b : List By) (n : Nat) : ArI b n 0 [] := ⟨Nat.zero_le _, List.Pairwise.nil, by simp, fun j hj => by omega⟩
theorem ArI.hole {b : List By} {n I : Nat} {l : List (Nat × Nat)} (h : ArI b n I l) (hI : I < b.length) (hh : InH b n I) : ArI b n (I + 1) l := by
  refine ⟨by omega, h.rise, fun x hx => by have := h.each x hx; omega, fun j hj => ?_⟩
  by_cases e : j < I
  · exact h.mem j e
  · obtain rfl : j = I := by omega
    exact ⟨fun ⟨x, hx, _, e2⟩ => by have := h.each x hx; omega, fun e => absurd hh e⟩
theorem ArI.new {b : List By} {n I : Nat} {l : List (Nat × Nat)} (h : ArI b n I l) (hI : I < b.length) (hh : ¬ InH b n I) (hl : ∀ x ∈ l, x.2 ≠ I) : ArI b n (I + 1) (l ++ [(I, I + 1)]) := by
  refine ⟨by omega, gaps_snoc h.rise (fun y hy => by have := h.each y hy; have := hl y hy; show y.2 < I; omega), fun x hx => ?_, fun j hj => ?_⟩
  · rcases List.mem_append.1 hx with e | e
    · have := h.each x e; omega
    · rw [List.mem_singleton] at e; subst e; exact ⟨Nat.lt_succ_self _, Nat.le_refl _⟩
  · rw [cov_snoc]
    by_cases e : j < I
    · rw [← h.mem j e]
      exact ⟨fun e2 => e2.elim id (fun e3 => by have : I ≤ j := e3.1; omega), .inl⟩
    · obtain rfl : j = I := by omega
      exact ⟨fun _ => hh, fun _ => .inr ⟨Nat.le_refl _, Nat.lt_succ_self _⟩⟩
theorem ArI.grow {b : List By} {n I f : Nat} {l : List (Nat × Nat)} (h : ArI b n I (l ++ [(f, I)])) (hI : I < b.length) (hh : ¬ InH b n I) : ArI b n (I + 1) (l ++ [(f, I + 1)]) := by
  have hg := h.rise
  unfold Gaps at hg
  rw [List.pairwise_append] at hg
  have hfI := h.each (f, I) (by simp)
  refine ⟨by omega, gaps_snoc hg.1 (fun y hy => hg.2.2 y hy (f, I) (by simp)), fun x hx => ?_, fun j hj => ?_⟩
  · rcases List.mem_append.1 hx with e | e
    · have := h.each x (List.mem_append_left _ e); omega
    · rw [List.mem_singleton] at e; subst e; exact ⟨by have : f < I := hfI.1; show f < I + 1; omega, Nat.le_refl _⟩
  · rw [cov_snoc]
    by_cases e : j < I
    · rw [← h.mem j e, cov_snoc]
      constructor
      · rintro (e2 | ⟨e2, e3⟩)
        · exact .inl e2
        · exact .inr ⟨e2, e⟩
      · rintro (e2 | ⟨e2, e3⟩)
        · exact .inl e2
        · exact .inr ⟨e2, by show j < I + 1; omega⟩
    · obtain rfl : j = I := by omega
      exact ⟨fun _ => hh, fun _ => .inr ⟨by have : f < j := hfI.1; show f ≤ j; omega, Nat.lt_succ_self _⟩⟩
theorem ArI.fin {b : List By} {n : Nat} {l : List (Nat × Nat)} (h : ArI b n b.length l) : Fnd b n l := ⟨h.rise, h.each, h.mem⟩
theorem ArI.last {b : List By} {n I : Nat} {l : List (Nat × Nat)} (h : ArI b n I l) (hl : ∀ x, l.getLast? = some x → x.2 ≠ I) : ∀ x ∈ l, x.2 ≠ I := by
  intro x hx
  obtain ⟨s, t, rfl⟩ := List.append_of_mem hx
  have hg := h.rise
  unfold Gaps at hg
  rw [List.pairwise_append] at hg
  by_cases ht : t = []
  · subst ht
    exact hl x (by simp)
  · obtain ⟨y, t', rfl⟩ := List.exists_cons_of_ne_nil ht
    have h1 := (List.pairwise_cons.1 hg.2.1).1 y List.mem_cons_self
    have h2 := h.each y (by simp)
    omega
/-! ### Rows of bools; a range whose end is set -/
theorem set_twoG {β : Type} (L : List β) (i : Nat) (a b : β) (h : i + 1 < L.length) (ha : L[i]? = some a) : L.set (i + 1) b = L.take i ++ [a, b] ++ L.drop (i + 2) := by
  apply List.ext_getElem?
  intro m
  rw [List.getElem?_set]
  by_cases h1 : i + 1 = m
  · subst h1
    rw [if_pos rfl, if_pos h, List.append_assoc, List.getElem?_append_right (by rw [List.length_take]; omega), List.length_take, Nat.min_eq_left (by omega), show i + 1 - i = 1 by omega]
    rfl
  · rw [if_neg h1]
    by_cases h2 : i = m
    · subst h2
      rw [List.append_assoc, List.getElem?_append_right (by rw [List.length_take]; omega), List.length_take, Nat.min_eq_left (by omega), Nat.sub_self]
      exact ha
    · by_cases h3 : m < i
      · rw [List.append_assoc, List.getElem?_append_left (by rw [List.length_take]; omega), List.getElem?_take, if_pos h3]
      · rw [List.getElem?_append_right (by rw [List.length_append, List.length_take]; simp; omega), List.getElem?_drop]
        congr 1
        rw [List.length_append, List.length_take, Nat.min_eq_left (by omega)]
        simp
        omega
theorem OwR.set2 {g : Nat} {v : Value} {l : List Rg} {W : World} (h : OwR RG g v l W) (I : Nat) (hI : I < l.length) (y : Int) : OwR RG g v (l.set I ((l[I]'hI).1, y)) (W.setCell ⟨g, I * 2 + 1, none⟩ (.int .i64 y)) := by
  obtain ⟨xs, h1, h2, h3, h4, h5⟩ := h
  have hxI : xs[I]? = some l[I] := by
    have e : (xs.take l.length)[I]? = l[I]? := by rw [h2]
    rw [List.getElem?_take, if_pos hI, List.getElem?_eq_getElem hI] at e
    exact e
  refine ⟨xs.set I (l[I].1, y), ?_, ?_, ?_, ?_, ?_⟩
  · rw [List.length_set, List.length_set]; exact h1
  · rw [List.length_set, List.take_set, h2]
  · rw [List.length_set, List.length_set]; exact h3
  · rw [List.length_set]; exact h4
  · have hl := flatR_length rgOk xs
    have hk : RG.k = 2 := rfl
    rw [hk] at hl
    have hat := flatR_at rgOk xs I 0 l[I] (.int .i64 l[I].1) hxI rfl
    rw [hk, Nat.add_zero] at hat
    unfold SwR at h5 ⊢
    rw [flatR_set rgOk xs I _ (by omega), hk, show (I + 1) * 2 = I * 2 + 2 by omega]
    simp only [World.setCell, Array.getElem?_modify, h5]
    have := set_twoG (flatR RG xs) (I * 2) (.int .i64 l[I].1) (.int .i64 y) (by omega) hat
    have he : RG.enc (l[I].1, y) = [.int .i64 l[I].1, .int .i64 y] := rfl
    rw [he]
    simp only [if_true, Option.map_some]
    congr 2
    apply Array.ext'
    show ((flatR RG xs).toArray.setIfInBounds (I * 2 + 1) (.int .i64 y)).toList = _
    rw [Array.toList_setIfInBounds]
    exact this
theorem pushO (V : World) (g m c : Nat) (l : List Rg) (h : OwR RG g (.slice (some ⟨g, 0, none⟩) m c) l V) (hl : l.length ≤ 1000000000) (x : Rg) :
    ∃ g' m' c' W, Hid (∀ ty, (Builtin.append_ #[22, 22] ty #[.slice (some ⟨g, 0, none⟩) m c, .slice (some ⟨V.heap.size, 0, none⟩) 1 1]).run Tryd.prog (V.alloc (.cells (rgC x) 51)) = .ok (.slice (some ⟨g', 0, none⟩) m' c') W) ∧
      OwR RG g' (.slice (some ⟨g', 0, none⟩) m' c') (l ++ [x]) W ∧ Fr (fun k => k = g) V W ∧ (g' = g ∨ V.heap.size ≤ g') := by
  have hN : Nw V (V.alloc (.cells (rgC x) 51)) := (Fr.refl _ _).alloc _
  have hb := litG V x
  obtain ⟨v', g', W, k1, k2, k3, k4⟩ := owR_app rgOk _ g _ l (h.nw hN) (.slice (some ⟨V.heap.size, 0, none⟩) 1 1) [x] (hb.slr rgOk).anyG (by simp only [RG, List.length_singleton]; omega) (by simp only [List.length_singleton]; omega)
  obtain ⟨xs, rfl, _⟩ := id k2
  refine ⟨g', _, _, W, k1, k2, hN.any.trans k3, ?_⟩
  rcases k4 with e | e
  · exact .inl e
  · have := hN.size; exact .inr (by omega)
end Go.Proofs.YtffhpoilifgcdaaDoor

namespace Go.Proofs.YtffhpoilifgcdaaDoor
open Go.RowKit
set_option linter.unusedVariables false
/-! ### Valid, held -/
theorem drop_at (l : List Rg) (I : Nat) (h : I < l.length) : l.drop I = l[I] :: l.drop (I + 1) := List.drop_eq_getElem_cons h
/-- A list of ranges that lies there and does not turn. -/
def InG (w : World) (a : Option Addr) (l : List Rg) : Prop := ∀ V, Nw w V → ∀ i (h : i < l.length), ∃ g o, a = some ⟨g, o, none⟩ ∧ V.cell? ⟨g, o + i * 2, none⟩ = some (.int .i64 l[i].1) ∧ V.cell? ⟨g, o + i * 2 + 1, none⟩ = some (.int .i64 l[i].2)
theorem SlR.inG {X : Nat → Prop} {a : Option Addr} {n c : Nat} {l : List Rg} {w : World} (h : SlR RG X (.slice a n c) l w) : InG w a l := fun V hV i hi => by
  obtain ⟨g, o, e, _, h0, h1⟩ := rg_at (h.nw hV) i hi
  exact ⟨g, o, e, h0, h1⟩
theorem slg_len {X : Nat → Prop} {a : Option Addr} {n c : Nat} {l : List Rg} {w : World} (h : SlR RG X (.slice a n c) l w) : l.length = n ∧ n ≤ c ∧ c < 9223372036854775808 := by
  obtain ⟨a', c', e, q1, q2, _⟩ := h.form
  injection e with e1 e2 e3
  omega
set_option maxHeartbeats 8000000 in
set_option maxRecDepth 100000 in
theorem valid_any {X : Nat → Prop} (w : World) (a : Option Addr) (n c : Nat) (l : List Rg) (hl : SlR RG X (.slice a n c) l w) (s : Int) :
    Calls Tryd.prog 23 #[.slice a n c, .int .i64 s] w fun e w' => e = .returned (.bool (vld l s)) ∧ Nw w w' := by
  obtain ⟨P, hP⟩ : ∃ P : Ending → World → Prop, P = fun e w' => e = .returned (.bool (vld l s)) ∧ Nw w w' := ⟨_, rfl⟩
  rw [← hP]
  have HF : Hid (∀ B V, vld l s = B → Nw w V → P (.returned (.bool B)) V) := fun B V h1 h2 => by rw [hP, h1]; exact ⟨rfl, h2⟩
  clear hP
  obtain ⟨hln, k1, k2⟩ := slg_len hl
  have HI := tHid hl.inG
  clear hl
  by_cases hs : s < 0
  · have HF2 := tHid (HF.out false w (vld_neg (by omega)) (Fr.refl _ _))
    clear HF HI
    go_enter Tryd.func23, Tryd.ntmps23
    go_wp2_with fail
    first | exact HF2.out | (go_ret; exact HF2.out)
  · by_cases hn : 65536 < n
    · have HF2 := tHid (HF.out false w (vld_long (by omega)) (Fr.refl _ _))
      have hni : (65536 : Int) < (n : Int) := by omega
      clear HF HI
      go_enter Tryd.func23, Tryd.ntmps23
      go_wp2_with fail
      first | exact HF2.out | (go_ret; exact HF2.out)
    · have hni : ¬ (65536 : Int) < (n : Int) := by omega
      have HS : Hid (vld l s = vlE s 0 (l.drop 0)) := by show _ = _; rw [vld_else (by omega) (by omega)]; rfl
      have HLN := tHid hln
      clear hln
      go_enter Tryd.func23, Tryd.ntmps23
      go_upto_region 5 with fail
      go_loopg [5, 17] n (fun kx e i wr => ∃ (I : Nat) (E : Int), I ≤ n ∧ n - I ≤ kx ∧ e = .int .i64 E ∧ i = .int .i64 I ∧ Hid (Nw w wr ∧ vld l s = vlE s E (l.drop I)))
      case atStart => exact ⟨0, 0, by omega, by omega, rfl, rfl, Fr.refl _ _, HS.out⟩
      case round =>
        obtain ⟨I, E, hI, hkx, rfl, rfl, HL⟩ := hrel
        obtain ⟨hN, hE⟩ := HL.out
        by_cases hlt : I < n
        · have hlt' : I < l.length := by have := HLN.out; omega
          obtain ⟨g, o, rfl, x0, x1⟩ := HI.out wr hN I hlt'
          rw [drop_at l I hlt'] at hE
          have HFb : Hid (∀ V, Nw wr V → ¬ (E ≤ l[I].1 ∧ l[I].1 ≤ l[I].2 ∧ l[I].2 ≤ s) → P (.returned (.bool false)) V) := fun V hV hb => HF.out false V (by rw [hE, vlE_bad hb]) (hN.trans hV)
          have HG : Hid (E ≤ l[I].1 → l[I].1 ≤ l[I].2 → l[I].2 ≤ s → vld l s = vlE s l[I].2 (l.drop (I + 1))) := fun h1 h2 h3 => by rw [hE, vlE_step h1 h2 h3]
          have HN := tHid hN
          clear HF HI HS HL hE hN
          generalize l[I].1 = f at *
          generalize l[I].2 = t at *
          by_cases h1 : f < E
          · have HF2 : Hid (∀ V, Nw wr V → P (.returned (.bool false)) V) := fun V hV => HFb.out V hV (by omega)
            clear HFb HG
            go_wp2_with fail
            first | exact HF2.out _ ((Fr.refl _ _).alloc _) | (go_ret; exact HF2.out _ ((Fr.refl _ _).alloc _))
          · by_cases h2 : t < f
            · have HF2 : Hid (∀ V, Nw wr V → P (.returned (.bool false)) V) := fun V hV => HFb.out V hV (by omega)
              clear HFb HG
              go_wp2_with fail
              first | exact HF2.out _ ((Fr.refl _ _).alloc _) | (go_ret; exact HF2.out _ ((Fr.refl _ _).alloc _))
            · by_cases h3 : s < t
              · have HF2 : Hid (∀ V, Nw wr V → P (.returned (.bool false)) V) := fun V hV => HFb.out V hV (by omega)
                clear HFb HG
                go_wp2_with fail
                first | exact HF2.out _ ((Fr.refl _ _).alloc _) | (go_ret; exact HF2.out _ ((Fr.refl _ _).alloc _))
              · have HG2 := tHid (HG.out (by omega) (by omega) (by omega))
                clear HFb HG
                go_wp2_with fail
                go_roundg (n - (I + 1))
                case measure => omega
                case rel => exact ⟨I + 1, t, by omega, by omega, rfl, by first | rfl | (congr 1), HN.out.alloc _, HG2.out⟩
        · have HF2 := tHid (HF.out true wr (by rw [hE, List.drop_eq_nil_of_le (by have := HLN.out; omega)]; rfl) hN)
          obtain rfl : I = n := by omega
          clear HF HI HS HL hE hN
          go_wp2_with fail
          first | exact HF2.out | (go_ret; exact HF2.out)
end Go.Proofs.YtffhpoilifgcdaaDoor

import Derived.Test.YtenkchhlaphocaaDoorNkP
namespace Go.Proofs.YtenkchhlaphocaaDoor
open Go.RowKit
set_option linter.unusedVariables false
/-! ### hand, left -/
def BH : Pr := ([98#8, 101#8, 104#8, 105#8, 110#8, 100#8], [])
theorem hand_chain (V : World) (u1 : Value) (l1 : List Pr) (h1 : SlR RP (fun _ => False) u1 l1 V) (x : Pr) (hn : l1.length ≤ 100000000) :
    ∃ v1 W1 v2 W2, Hid (∀ ty, (Builtin.append_ #[22, 22] ty #[.slice (some ⟨V.heap.size, 0, none⟩) 0 0, u1]).run Tryd.prog (V.alloc (.cells #[] 47)) = .ok v1 W1)
      ∧ Hid (∀ ty, (Builtin.append_ #[22, 22] ty #[v1, .slice (some ⟨W1.heap.size, 0, none⟩) 1 1]).run Tryd.prog (W1.alloc (.cells (prC x) 47)) = .ok v2 W2)
      ∧ Hid (Nw V W2 ∧ ∃ g, V.heap.size ≤ g ∧ OwR RP g v2 (l1 ++ [x]) W2) := by
  have hN0 : Nw V (V.alloc (.cells #[] 47)) := (Fr.refl _ _).alloc _
  have hs0 : (V.alloc (.cells #[] RP.T)).heap.size = V.heap.size + 1 := by simp
  obtain ⟨v1, g1, W1, a1, o1, f1, d1⟩ := owR_app rpOk _ _ _ [] (OwR.empty (R := RP) V) u1 l1 (h1.nw hN0) (by simp only [RP, List.length_nil]; omega) (by simp; omega)
  have hg1 : V.heap.size ≤ g1 := by rcases d1 with e | e <;> omega
  have hN1 : Nw V W1 := hN0.then f1 (fun i hi => .inr (by omega))
  rw [List.nil_append] at o1
  have hNa : Nw W1 (W1.alloc (.cells (prC x) 47)) := (Fr.refl _ _).alloc _
  obtain ⟨v2, g2, W2, a2, o2, f2, d2⟩ := owR_app rpOk _ g1 v1 l1 (o1.nw hNa) _ [x] ((litP W1 x).slr rpOk).anyP (by simp only [RP, List.length_cons, List.length_nil]; omega) (by simp; omega)
  have hsa : (W1.alloc (.cells (prC x) 47)).heap.size = W1.heap.size + 1 := by simp
  have hsz1 := hN1.size
  have hg2 : V.heap.size ≤ g2 := by rcases d2 with e | e <;> omega
  exact ⟨v1, W1, v2, W2, a1, a2, (hN1.trans hNa).then f2 (fun i hi => .inr (by omega)), g2, hg2, o2⟩
set_option maxHeartbeats 4000000 in
set_option maxRecDepth 100000 in
theorem hand_any {X : Nat → Prop} (w : World) (va : Value) (l : List Pr) (hl : SlR RP X va l w) (hn : l.length ≤ 100000000) : Calls Tryd.prog 7 #[va] w fun e V => ∃ v, e = .returned v ∧ Hid (Nw w V ∧ ∃ g, w.heap.size ≤ g ∧ OwR RP g v (l ++ [BH]) V) := by
  obtain ⟨P, hP⟩ : ∃ P : Ending → World → Prop, P = fun e V => ∃ v, e = .returned v ∧ Hid (Nw w V ∧ ∃ g, w.heap.size ≤ g ∧ OwR RP g v (l ++ [BH]) V) := ⟨_, rfl⟩
  rw [← hP]
  have HF : Hid (∀ v V, (Nw w V ∧ ∃ g, w.heap.size ≤ g ∧ OwR RP g v (l ++ [BH]) V) → P (.returned v) V) := fun v V h => by rw [hP]; exact ⟨v, rfl, h⟩
  clear hP
  obtain ⟨v1, W1, v2, W2, R1, R2, HE⟩ := hand_chain w va l hl.anyP BH hn
  have HF2 := tHid (HF.out v2 W2 HE.out)
  obtain ⟨a, c, rfl, k1, k2, _⟩ := hl.form
  have R2' : Hid (∀ ty, (Builtin.append_ #[22, 22] ty #[v1, .slice (some ⟨W1.heap.size, 0, none⟩) 1 1]).run Tryd.prog (W1.alloc (.cells #[.string ⟨#[98, 101, 104, 105, 110, 100]⟩, .string ⟨#[]⟩] 47)) = .ok v2 W2) := R2
  clear hl HF HE R2
  go_enter Tryd.func7, Tryd.ntmps7
  go_wp2_with (first
    | (at_builtin; refine Lib.wpList_append_run _ rfl _ _ 22 22 rfl (.slice (some ⟨w.heap.size, 0, none⟩) 0 0) (.slice a l.length c) (by first | rfl | simp [Act.eval]) (by first | rfl | simp [Act.eval]) _ _ (R1.out _) ?_)
    | (at_builtin; refine Lib.wpList_append_run _ rfl _ _ 22 22 rfl v1 (.slice (some ⟨W1.heap.size, 0, none⟩) 1 1) (by first | rfl | simp [Act.eval]) (by first | rfl | simp [Act.eval]) _ _ (R2'.out _) ?_))
  first | exact HF2.out | (go_ret; exact HF2.out)
set_option maxHeartbeats 4000000 in
set_option maxRecDepth 100000 in
theorem left_any {X Y : Nat → Prop} (w : World) (vl vw : Value) (l : List Pr) (hl : SlR RP X vl (l ++ [BH]) w) (hw : SlR RP Y vw l w) (hn : l.length ≤ 100000000) : Calls Tryd.prog 15 #[vl, vw] w fun e V => e = .returned (.bool true) ∧ Nw w V := by
  obtain ⟨P, hP⟩ : ∃ P : Ending → World → Prop, P = fun e V => e = .returned (.bool true) ∧ Nw w V := ⟨_, rfl⟩
  rw [← hP]
  have HF : Hid (∀ V, Nw w V → P (.returned (.bool true)) V) := fun V hV => by rw [hP]; exact ⟨rfl, hV⟩
  clear hP
  obtain ⟨a2, c2, rfl, k3, k4, _⟩ := hw.form
  obtain ⟨a, c, rfl, k1, k2, _⟩ := hl.form
  have hlb : l.length < (l ++ [BH]).length := by simp
  obtain ⟨g, o, rfl, _, x0, x1⟩ := rp_at hl l.length hlb
  have hll : (l ++ [BH]).length = l.length + 1 := by simp
  have hget : (l ++ [BH])[l.length]'hlb = BH := by simp
  have ht := SlR.takeP hl l.length (by omega)
  rw [List.take_left] at ht
  have HSM := tHid (same_any w _ _ l l ht hw)
  rw [decide_eq_true rfl] at HSM
  have HX : Hid (∀ V, Nw w V → V.cell? ⟨g, o + l.length * 2, none⟩ = some (.string ⟨#[98, 101, 104, 105, 110, 100]⟩)) := fun V hV => by
    obtain ⟨g', o', e, _, z0, z1⟩ := rp_at (hl.nw hV) l.length hlb
    injection e with e
    injection e with e1 e2 _
    subst e1 e2
    rw [hget] at z0
    exact z0
  rw [hll] at k1 ⊢
  clear hl hw ht x0 x1 hget hlb hll
  generalize l.length = n at *
  have z1 : (n : Int) < (n : Int) + 1 := by omega
  go_enter Tryd.func15, Tryd.ntmps15
  go_wp2_with (first
    | (go_at_call 26; with_reducible refine HSM.out.mono ?_; rintro e w2 ⟨rfl, H2⟩; have H2 := tHid H2; have xq := HX.out _ H2.out))
  first | exact HF.out _ H2.out | (go_ret; exact HF.out _ H2.out)
end Go.Proofs.YtenkchhlaphocaaDoor

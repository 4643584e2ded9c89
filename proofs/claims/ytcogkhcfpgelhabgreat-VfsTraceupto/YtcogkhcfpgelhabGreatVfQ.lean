import Derived.Test.YtcogkhcfpgelhabGreatVfP
import Derived.Lib.AppendZerosOnto
namespace Go.Proofs.YtcogkhcfpgelhabGreat
open Go.RowKit
set_option linter.unusedVariables false
set_option maxRecDepth 100000
variable {w w' : World}
theorem OgB.old {od : Option Nat} {v : Value} {l : List By} {w : World} (h : OgB od v l w) : Old w v l := by
  refine h.sl.mono (fun g hg e => ?_)
  subst e
  have := OgB.lt h
  omega
/-- Zeros behind bytes of one's own. -/
theorem app_zeros (w : World) (od : Option Nat) (v : Value) (l : List By) (hO : OgB od v l w) (k : Nat) (hb : l.length + k ≤ 100000000000000) :
    ∃ v' od' W, (∀ ty, (Builtin.append_ #[38, 3] ty #[v, .int .i64 k]).run Tryz.prog w = .ok v' W) ∧ OgB od' v' (l ++ List.replicate k 0#8) W ∧ Fr (fun b => od = some b) w W ∧ (od' = od ∨ ∃ g, od' = some g ∧ w.heap.size ≤ g) := by
  obtain ⟨i, hi, hz, hs, hby⟩ := infoB
  have hwk : IntKind.i64.wrap (k : Int) = (k : Int) := by rw [IntKind.wrap_i64]; omega
  have hk0 : ¬ ((k : Int) < 0) := by omega
  have hw0 : IntKind.i64.wrap 0 = 0 := by rw [IntKind.wrap_i64]; omega
  have hk48 : ¬ (281474976710656 < (k : Int) * (i.bytes : Int)) := by rw [hby]; omega
  cases od with
  | none =>
    obtain ⟨rfl, rfl⟩ := hO
    by_cases hk : k = 0
    · subst hk
      refine ⟨.slice none 0 0, none, w, fun ty => ?_, ⟨rfl, rfl⟩, Fr.refl _ _, .inl rfl⟩
      simp [Builtin.append_, run_underlying Tryz.underlying38, run_underlying Tryz.underlying3, sizeOf, typeInfo, hi, asInt, asIntOf, hw0]
    · have hrun := fun ty => Lib.run_append_nil_zeros (P := Tryz.prog) w 38 3 ty 5 i _ .i64 .i64 Tryz.underlying38 Tryz.underlying3 hi hz k (by omega) (by omega) (by omega) (by rw [hby]; omega)
      have hge := grownCap_ge w k 0 5
      have hle := grownCap_le_maxLen w k 0 5 (by unfold maxLen; omega)
      unfold maxLen at hle
      generalize grownCap w k 0 5 = G at *
      refine ⟨_, some w.heap.size, _, hrun, ?_, Nw.any ((Fr.refl _ _).drew.alloc _), .inr ⟨_, rfl, Nat.le_refl _⟩⟩
      have e : (Builtin.zeroCells (Value.int .u8 0).cells k ++ Builtin.zeroCells (Value.int .u8 0).cells (G - k)) = ((List.replicate k 0#8 ++ List.replicate (G - k) 0#8).map bv).toArray := by
        rw [zeroB, zeroB]; simp
      rw [e, List.nil_append]
      refine ⟨List.replicate k 0#8 ++ List.replicate (G - k) 0#8, ?_, ?_, ?_, ?_, ?_⟩
      · simp; omega
      · rw [List.take_append_of_le_length (by simp), List.take_of_length_le (by simp)]
      · simp
      · simp; omega
      · show (w.drew.heap.push _)[w.heap.size]? = _
        show (w.heap.push _)[w.heap.size]? = _
        simp
  | some g =>
    have hO2 : Ow g v l w := hO
    obtain ⟨xs, rfl, h2, h3, h4, h5⟩ := id hO2
    by_cases hk : k = 0
    · subst hk
      refine ⟨.slice (some ⟨g, 0, none⟩) l.length xs.length, some g, w, fun ty => ?_, ?_, Fr.refl _ _, .inl rfl⟩
      · have hst : (storeCells ⟨g, l.length, none⟩ []).run Tryz.prog w = .ok () w := rfl
        simp [Builtin.append_, run_underlying Tryz.underlying38, run_underlying Tryz.underlying3, sizeOf, typeInfo, hi, hs, asInt, asIntOf, hw0, h3, Addr.add_lit, hst]
      · rw [List.replicate_zero, List.append_nil]; exact hO2
    · by_cases hroom : l.length + k ≤ xs.length
      · have hst := run_storeCells_at (P := Tryz.prog) g (0 + l.length) 5 ((List.replicate k 0#8).map bv) 0 (xs.map bv).toArray w h5 (by simp; omega) (bv_one _)
        refine ⟨.slice (some ⟨g, 0, none⟩) (l.length + k) xs.length, some g, w.setRow g (((l ++ List.replicate k 0#8 ++ xs.drop (l.length + k)).map bv).toArray), fun ty => ?_, ?_, ?_, .inl rfl⟩
        · obtain ⟨W0, hW0⟩ : ∃ W0, W0 = w.setRow g (((l ++ List.replicate k 0#8 ++ xs.drop (l.length + k)).map bv).toArray) := ⟨_, rfl⟩
          have hst' : (storeCells ⟨g, l.length, none⟩ ((List.replicate k 0#8).map bv)).run Tryz.prog w = .ok () W0 := by
            rw [← Nat.zero_add l.length, hst, hW0]
            congr 3
            simp only [Nat.add_zero, Nat.zero_add, List.length_map, List.length_replicate]
            rw [← List.map_take, ← List.map_drop, h2]
            simp
          rw [← hW0]
          clear hst
          have hzl : (Builtin.zeroCells (Value.int .u8 0).cells k).toList = (List.replicate k 0#8).map bv := by rw [zeroB]
          rw [List.map_replicate] at hst'
          have hns : ¬ (k * i.size = 0) := by rw [hs]; omega
          have hns1 : ¬ (k * 1 = 0) := by omega
          have hneed : l.length + k ≤ xs.length := hroom
          rw [hs] at hns
          have hb1 : ¬ (281474976710656 < (k : Int)) := by omega
          simp [Builtin.append_, run_underlying Tryz.underlying38, run_underlying Tryz.underlying3, sizeOf, typeInfo, zeroValue, asInt, asIntOf, hwk, hk0, hb1, hi, hs, hby, hz, hk, hneed, Addr.add_lit, hzl, hst']
        · have hl : (l ++ List.replicate k 0#8).length = l.length + k := by simp
          refine ⟨l ++ List.replicate k 0#8 ++ xs.drop (l.length + k), ?_, ?_, ?_, ?_, ?_⟩
          · simp; omega
          · rw [List.take_append_of_le_length (by simp), List.take_of_length_le (by simp)]
          · simp
          · simp; omega
          · exact setRow_heap w g _ _ 5 _ h5
        · exact (Fr.refl _ _).setRow _ _ (.inl rfl)
      · have hold : (Builtin.firstCells i.size l.length (.slice (some ⟨g, 0, none⟩) l.length xs.length)).run Tryz.prog w.drew = .ok (l.map bv).toArray w.drew := by
          rw [hs]
          refine run_firstCells_some w.drew 1 l.length ⟨g, 0, none⟩ l.length xs.length (l.map bv) (by simp) (fun j u hj => ?_)
          rw [add_addr]
          simp only [List.getElem?_map, Option.map_eq_some_iff] at hj
          obtain ⟨b, hb, rfl⟩ := hj
          have hr := h5.rd.take l.length
          rw [h2] at hr
          exact hr.at j b hb
        have hrun := fun ty => Lib.run_append_grow_zeros (P := Tryz.prog) w 38 3 ty 5 i _ .i64 .i64 Tryz.underlying38 Tryz.underlying3 hi hz (some ⟨g, 0, none⟩) l.length xs.length _ hold k (by omega) (by omega) (by omega) (by omega) (by rw [hby]; omega) (by rw [hby]; exact growslice_fits_wide (by omega) (by omega))
        have hge := grownCap_ge w (l.length + k) xs.length 5
        have hle := grownCap_le_maxLen w (l.length + k) xs.length 5 (by unfold maxLen; omega)
        unfold maxLen at hle
        generalize grownCap w (l.length + k) xs.length 5 = G at *
        refine ⟨_, some w.heap.size, _, hrun, ?_, Nw.any ((Fr.refl _ _).drew.alloc _), .inr ⟨_, rfl, Nat.le_refl _⟩⟩
        have e : ((l.map bv).toArray ++ Builtin.zeroCells (Value.int .u8 0).cells k ++ Builtin.zeroCells (Value.int .u8 0).cells (G - (l.length + k))) = ((l ++ List.replicate k 0#8 ++ List.replicate (G - (l.length + k)) 0#8).map bv).toArray := by
          rw [zeroB, zeroB]; simp
        rw [e]
        refine ⟨l ++ List.replicate k 0#8 ++ List.replicate (G - (l.length + k)) 0#8, ?_, ?_, ?_, ?_, ?_⟩
        · simp; omega
        · rw [List.take_append_of_le_length (by simp), List.take_of_length_le (by simp)]
        · simp
        · simp; omega
        · show (w.drew.heap.push _)[w.heap.size]? = _
          show (w.heap.push _)[w.heap.size]? = _
          simp
set_option maxHeartbeats 8000000 in
/-- bytes.Clone, of whatever bytes. -/
theorem bcl_any (w : World) (a : Option Addr) (n c : Nat) (p : List By) (hn : n = p.length) (hu : Sl (fun _ => False) (.slice a n c) p w) (hp : p.length ≤ 140737488351232) :
    Calls Tryz.prog 40 #[.slice a n c] w fun e w' => ∃ a' c' od, e = .returned (.slice a' n c') ∧ OgB od (.slice a' n c') p w' ∧ Nw w w' ∧ ∀ g, od = some g → w.heap.size ≤ g := by
  obtain ⟨P, hP⟩ : ∃ P : Ending → World → Prop, P = fun e w' => ∃ a' c' od, e = .returned (.slice a' n c') ∧ OgB od (.slice a' n c') p w' ∧ Nw w w' ∧ ∀ g, od = some g → w.heap.size ≤ g := ⟨_, rfl⟩
  rw [← hP]
  subst hn
  cases a with
  | none =>
    have hpc : p = [] ∧ c = 0 := by
      rcases hu with ⟨a', e, h2⟩ | ⟨g, _, o, c', e, _⟩
      · injection e with _ _ e3
        exact ⟨h2, e3⟩
      · injection e with e1
        cases e1
    obtain ⟨rfl, rfl⟩ := hpc
    have HF : Hid (P (.returned (.slice none 0 0)) w) := by rw [hP]; exact ⟨none, 0, none, rfl, ⟨rfl, rfl⟩, Fr.refl _ _, fun g hg => by cases hg⟩
    have hnil : ∀ w, (binOp BinOp.eql 38 (.slice none 0 0) (.slice none 0 0)).run Tryz.prog w = .ok (.bool true) w := fun _ => by kernel_rfl
    clear hP hu
    simp only [List.length_nil] at *
    go_enter Tryz.func40, Tryz.ntmps40
    go_wp2_with fail
    exact HF.out
  | some ad =>
    have hsl : Sl (fun _ => False) (.slice (some ad) p.length c) p (w.alloc (.cells #[] 5)) := Sl.nw hu ((Fr.refl _ _).alloc _)
    obtain ⟨v, g', W, hap, hO, hF, hg'⟩ := app_any (w.alloc (.cells #[] 5)) w.heap.size _ [] (Ow.empty w) _ p hsl (by simp; omega)
    rw [List.nil_append] at hO
    have hO' := hO
    obtain ⟨xs, rfl, _⟩ := hO'
    have HF : Hid (P (.returned (.slice (some ⟨g', 0, none⟩) p.length xs.length)) W) := by
      show P _ _
      rw [hP]
      refine ⟨_, _, some g', rfl, hO, Fr.then ((Fr.refl _ _).alloc _) hF (fun i hi => .inr (by omega)), fun g hg => ?_⟩
      injection hg with hg
      subst hg
      rcases hg' with h | h
      · omega
      · simp at h; omega
    have HAP : Hid (∀ ty, (Builtin.append_ #[38, 38] ty #[.slice (some ⟨w.heap.size, 0, none⟩) 0 0, .slice (some ad) p.length c]).run Tryz.prog (w.alloc (.cells #[] 5)) = .ok (.slice (some ⟨g', 0, none⟩) p.length xs.length) W) := hap
    clear hap hO hF hg' hP hsl hu
    generalize p.length = pn at *
    generalize xs.length = xn at *
    have hnil : ∀ w, (binOp BinOp.eql 38 (.slice (some ad) pn c) (.slice none 0 0)).run Tryz.prog w = .ok (.bool false) w := fun _ => by kernel_rfl
    go_enter Tryz.func40, Tryz.ntmps40
    go_wp2_with (first
      | (at_builtin; refine Lib.wpList_append_run _ rfl _ _ 38 38 rfl (.slice (some ⟨w.heap.size, 0, none⟩) 0 0) (.slice (some ad) pn c) (by simp [Act.eval]) (by simp [Act.eval]) _ _ (HAP.out _) ?_))
    exact HF.out
end Go.Proofs.YtcogkhcfpgelhabGreat

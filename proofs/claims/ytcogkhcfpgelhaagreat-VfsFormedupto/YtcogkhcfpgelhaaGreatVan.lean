import Derived.Test.YtcogkhcfpgelhaaGreatVam
import Derived.Lib.AppendZerosOnto
namespace Go.Proofs.YtcogkhcfpgelhaaGreat
open Go.RowKit
set_option linter.unusedVariables false
set_option maxRecDepth 100000
variable {w w' : World}
theorem OgB.old {od : Option Nat} {v : Value} {l : List By} {w : World} (h : OgB od v l w) : Old w v l := by
  refine h.sl.mono (fun g hg e => ?_)
  subst e
  have := OgB.lt h
  omega
/-- Zeros behind bytes of one's own. -/
theorem app_zeros (w : World) (od : Option Nat) (v : Value) (l : List By) (hO : OgB od v l w) (k : Nat) (hb : l.length + k ≤ 100000000000000) :
    ∃ v' od' W, (∀ ty, (Builtin.append_ #[34, 3] ty #[v, .int .i64 k]).run Tryz.prog w = .ok v' W) ∧ OgB od' v' (l ++ List.replicate k 0#8) W ∧ Fr (fun b => od = some b) w W ∧ (od' = od ∨ ∃ g, od' = some g ∧ w.heap.size ≤ g) := by
  obtain ⟨i, hi, hz, hs, hby⟩ := infoB
  have hwk : IntKind.i64.wrap (k : Int) = (k : Int) := by rw [IntKind.wrap_i64]; omega
  have hk0 : ¬ ((k : Int) < 0) := by omega
  have hw0 : IntKind.i64.wrap 0 = 0 := by rw [IntKind.wrap_i64]; omega
  have hk48 : ¬ (281474976710656 < (k : Int) * (i.bytes : Int)) := by rw [hby]; omega
  cases od with
  | none =>
    obtain ⟨rfl, rfl⟩ := hO
    by_cases hk : k = 0
    · subst hk
      refine ⟨.slice none 0 0, none, w, fun ty => ?_, ⟨rfl, rfl⟩, Fr.refl _ _, .inl rfl⟩
      simp [Builtin.append_, run_underlying Tryz.underlying34, run_underlying Tryz.underlying3, sizeOf, typeInfo, hi, asInt, asIntOf, hw0]
    · have hrun := fun ty => Lib.run_append_nil_zeros (P := Tryz.prog) w 34 3 ty 5 i _ .i64 .i64 Tryz.underlying34 Tryz.underlying3 hi hz k (by omega) (by omega) (by omega) (by rw [hby]; omega)
      have hge := grownCap_ge w k 0 5
      have hle := grownCap_le_maxLen w k 0 5 (by unfold maxLen; omega)
      unfold maxLen at hle
      generalize grownCap w k 0 5 = G at *
      refine ⟨_, some w.heap.size, _, hrun, ?_, Nw.any ((Fr.refl _ _).drew.alloc _), .inr ⟨_, rfl, Nat.le_refl _⟩⟩
      have e : (Builtin.zeroCells (Value.int .u8 0).cells k ++ Builtin.zeroCells (Value.int .u8 0).cells (G - k)) = ((List.replicate k 0#8 ++ List.replicate (G - k) 0#8).map bv).toArray := by
        rw [zeroB, zeroB]; simp
      rw [e, List.nil_append]
      refine ⟨List.replicate k 0#8 ++ List.replicate (G - k) 0#8, ?_, ?_, ?_, ?_, ?_⟩
      · simp; omega
      · rw [List.take_append_of_le_length (by simp), List.take_of_length_le (by simp)]
      · simp
      · simp; omega
      · show (w.drew.heap.push _)[w.heap.size]? = _
        show (w.heap.push _)[w.heap.size]? = _
        simp
  | some g =>
    have hO2 : Ow g v l w := hO
    obtain ⟨xs, rfl, h2, h3, h4, h5⟩ := id hO2
    by_cases hk : k = 0
    · subst hk
      refine ⟨.slice (some ⟨g, 0, none⟩) l.length xs.length, some g, w, fun ty => ?_, ?_, Fr.refl _ _, .inl rfl⟩
      · have hst : (storeCells ⟨g, l.length, none⟩ []).run Tryz.prog w = .ok () w := rfl
        simp [Builtin.append_, run_underlying Tryz.underlying34, run_underlying Tryz.underlying3, sizeOf, typeInfo, hi, hs, asInt, asIntOf, hw0, h3, Addr.add_lit, hst]
      · rw [List.replicate_zero, List.append_nil]; exact hO2
    · by_cases hroom : l.length + k ≤ xs.length
      · have hst := run_storeCells_at (P := Tryz.prog) g (0 + l.length) 5 ((List.replicate k 0#8).map bv) 0 (xs.map bv).toArray w h5 (by simp; omega) (bv_one _)
        refine ⟨.slice (some ⟨g, 0, none⟩) (l.length + k) xs.length, some g, w.setRow g (((l ++ List.replicate k 0#8 ++ xs.drop (l.length + k)).map bv).toArray), fun ty => ?_, ?_, ?_, .inl rfl⟩
        · obtain ⟨W0, hW0⟩ : ∃ W0, W0 = w.setRow g (((l ++ List.replicate k 0#8 ++ xs.drop (l.length + k)).map bv).toArray) := ⟨_, rfl⟩
          have hst' : (storeCells ⟨g, l.length, none⟩ ((List.replicate k 0#8).map bv)).run Tryz.prog w = .ok () W0 := by
            rw [← Nat.zero_add l.length, hst, hW0]
            congr 3
            simp only [Nat.add_zero, Nat.zero_add, List.length_map, List.length_replicate]
            rw [← List.map_take, ← List.map_drop, h2]
            simp
          rw [← hW0]
          clear hst
          have hzl : (Builtin.zeroCells (Value.int .u8 0).cells k).toList = (List.replicate k 0#8).map bv := by rw [zeroB]
          rw [List.map_replicate] at hst'
          have hns : ¬ (k * i.size = 0) := by rw [hs]; omega
          have hns1 : ¬ (k * 1 = 0) := by omega
          have hneed : l.length + k ≤ xs.length := hroom
          rw [hs] at hns
          have hb1 : ¬ (281474976710656 < (k : Int)) := by omega
          simp [Builtin.append_, run_underlying Tryz.underlying34, run_underlying Tryz.underlying3, sizeOf, typeInfo, zeroValue, asInt, asIntOf, hwk, hk0, hb1, hi, hs, hby, hz, hk, hneed, Addr.add_lit, hzl, hst']
        · have hl : (l ++ List.replicate k 0#8).length = l.length + k := by simp
          refine ⟨l ++ List.replicate k 0#8 ++ xs.drop (l.length + k), ?_, ?_, ?_, ?_, ?_⟩
          · simp; omega
          · rw [List.take_append_of_le_length (by simp), List.take_of_length_le (by simp)]
          · simp
          · simp; omega
          · exact setRow_heap w g _ _ 5 _ h5
        · exact (Fr.refl _ _).setRow _ _ (.inl rfl)
      · have hold : (Builtin.firstCells i.size l.length (.slice (some ⟨g, 0, none⟩) l.length xs.length)).run Tryz.prog w.drew = .ok (l.map bv).toArray w.drew := by
          rw [hs]
          refine run_firstCells_some w.drew 1 l.length ⟨g, 0, none⟩ l.length xs.length (l.map bv) (by simp) (fun j u hj => ?_)
          rw [add_addr]
          simp only [List.getElem?_map, Option.map_eq_some_iff] at hj
          obtain ⟨b, hb, rfl⟩ := hj
          have hr := h5.rd.take l.length
          rw [h2] at hr
          exact hr.at j b hb
        have hrun := fun ty => Lib.run_append_grow_zeros (P := Tryz.prog) w 34 3 ty 5 i _ .i64 .i64 Tryz.underlying34 Tryz.underlying3 hi hz (some ⟨g, 0, none⟩) l.length xs.length _ hold k (by omega) (by omega) (by omega) (by omega) (by rw [hby]; omega) (by rw [hby]; exact growslice_fits_wide (by omega) (by omega))
        have hge := grownCap_ge w (l.length + k) xs.length 5
        have hle := grownCap_le_maxLen w (l.length + k) xs.length 5 (by unfold maxLen; omega)
        unfold maxLen at hle
        generalize grownCap w (l.length + k) xs.length 5 = G at *
        refine ⟨_, some w.heap.size, _, hrun, ?_, Nw.any ((Fr.refl _ _).drew.alloc _), .inr ⟨_, rfl, Nat.le_refl _⟩⟩
        have e : ((l.map bv).toArray ++ Builtin.zeroCells (Value.int .u8 0).cells k ++ Builtin.zeroCells (Value.int .u8 0).cells (G - (l.length + k))) = ((l ++ List.replicate k 0#8 ++ List.replicate (G - (l.length + k)) 0#8).map bv).toArray := by
          rw [zeroB, zeroB]; simp
        rw [e]
        refine ⟨l ++ List.replicate k 0#8 ++ List.replicate (G - (l.length + k)) 0#8, ?_, ?_, ?_, ?_, ?_⟩
        · simp; omega
        · rw [List.take_append_of_le_length (by simp), List.take_of_length_le (by simp)]
        · simp
        · simp; omega
        · show (w.drew.heap.push _)[w.heap.size]? = _
          show (w.heap.push _)[w.heap.size]? = _
          simp
set_option maxHeartbeats 8000000 in
/-- bytes.Clone, of whatever bytes. -/
theorem bcl_any (w : World) (a : Option Addr) (n c : Nat) (p : List By) (hn : n = p.length) (hu : Sl (fun _ => False) (.slice a n c) p w) (hp : p.length ≤ 140737488351232) :
    Calls Tryz.prog 68 #[.slice a n c] w fun e w' => ∃ a' c' od, e = .returned (.slice a' n c') ∧ OgB od (.slice a' n c') p w' ∧ Nw w w' ∧ ∀ g, od = some g → w.heap.size ≤ g := by
  obtain ⟨P, hP⟩ : ∃ P : Ending → World → Prop, P = fun e w' => ∃ a' c' od, e = .returned (.slice a' n c') ∧ OgB od (.slice a' n c') p w' ∧ Nw w w' ∧ ∀ g, od = some g → w.heap.size ≤ g := ⟨_, rfl⟩
  rw [← hP]
  subst hn
  cases a with
  | none =>
    have hpc : p = [] ∧ c = 0 := by
      rcases hu with ⟨a', e, h2⟩ | ⟨g, _, o, c', e, _⟩
      · injection e with _ _ e3
        exact ⟨h2, e3⟩
      · injection e with e1
        cases e1
    obtain ⟨rfl, rfl⟩ := hpc
    have HF : Hid (P (.returned (.slice none 0 0)) w) := by rw [hP]; exact ⟨none, 0, none, rfl, ⟨rfl, rfl⟩, Fr.refl _ _, fun g hg => by cases hg⟩
    have hnil : ∀ w, (binOp BinOp.eql 34 (.slice none 0 0) (.slice none 0 0)).run Tryz.prog w = .ok (.bool true) w := fun _ => by kernel_rfl
    clear hP hu
    simp only [List.length_nil] at *
    go_enter Tryz.func68, Tryz.ntmps68
    go_wp2_with fail
    exact HF.out
  | some ad =>
    have hsl : Sl (fun _ => False) (.slice (some ad) p.length c) p (w.alloc (.cells #[] 5)) := Sl.nw hu ((Fr.refl _ _).alloc _)
    obtain ⟨v, g', W, hap, hO, hF, hg'⟩ := app_any (w.alloc (.cells #[] 5)) w.heap.size _ [] (Ow.empty w) _ p hsl (by simp; omega)
    rw [List.nil_append] at hO
    have hO' := hO
    obtain ⟨xs, rfl, _⟩ := hO'
    have HF : Hid (P (.returned (.slice (some ⟨g', 0, none⟩) p.length xs.length)) W) := by
      show P _ _
      rw [hP]
      refine ⟨_, _, some g', rfl, hO, Fr.then ((Fr.refl _ _).alloc _) hF (fun i hi => .inr (by omega)), fun g hg => ?_⟩
      injection hg with hg
      subst hg
      rcases hg' with h | h
      · omega
      · simp at h; omega
    have HAP : Hid (∀ ty, (Builtin.append_ #[34, 34] ty #[.slice (some ⟨w.heap.size, 0, none⟩) 0 0, .slice (some ad) p.length c]).run Tryz.prog (w.alloc (.cells #[] 5)) = .ok (.slice (some ⟨g', 0, none⟩) p.length xs.length) W) := hap
    clear hap hO hF hg' hP hsl hu
    generalize p.length = pn at *
    generalize xs.length = xn at *
    have hnil : ∀ w, (binOp BinOp.eql 34 (.slice (some ad) pn c) (.slice none 0 0)).run Tryz.prog w = .ok (.bool false) w := fun _ => by kernel_rfl
    go_enter Tryz.func68, Tryz.ntmps68
    go_wp2_with (first
      | (at_builtin; refine Lib.wpList_append_run _ rfl _ _ 34 34 rfl (.slice (some ⟨w.heap.size, 0, none⟩) 0 0) (.slice (some ad) pn c) (by simp [Act.eval]) (by simp [Act.eval]) _ _ (HAP.out _) ?_))
    exact HF.out
end Go.Proofs.YtcogkhcfpgelhaaGreat

namespace Go.Proofs.YtcogkhcfpgelhaaGreat
open Go.RowKit
set_option linter.unusedVariables false
set_option maxRecDepth 100000
variable {fb mb : Nat} {ot : Option Nat} {L : Int → Lay} {h : Hx} {q : Int → Option Pn} {cnt : Nat} {T : List Ac} {w w' : World} {X : Nat → Prop}
/-- Bytes of another size. -/
def rszD (l : List By) (n : Nat) : List By := if l.length ≤ n then l ++ List.replicate (n - l.length) 0#8 else l.take n
theorem rszD_len (l : List By) (n : Nat) : (rszD l n).length = n := by
  unfold rszD
  split
  · simp; omega
  · rw [List.length_take]; omega
def rszP (p : Pn) (n : Nat) : Pn := { p with data := rszD p.data n }
def rszH (h : Hx) (p : Pn) (n : Nat) : Hx := { h with held := h.held + ((n : Int) - (p.data.length : Int)) }
/-- The inodes lie where they lay, but maybe the data of one. -/
def LayTo (L L' : Int → Lay) (k : Int) (w : World) : Prop := ∀ j, (L' j).ib = (L j).ib ∧ (L' j).eb = (L j).eb ∧ ∀ g, (L' j).od = some g → (L j).od = some g ∨ w.heap.size ≤ g
def RszO (fb mb : Nat) (ot : Option Nat) (L : Int → Lay) (h : Hx) (q : Int → Option Pn) (cnt : Nat) (T : List Ac) (k : Int) (p : Pn) (n : Nat) (w w' : World) : Prop := ∃ L', FsH fb mb ot L' (rszH h p n) (fun j => if j = k then some (rszP p n) else q j) cnt T w' ∧ Fr (fun b => b = fb ∨ b = (L k).ib ∨ (L k).od = some b) w w' ∧ LayTo L L' k w
theorem lay_turn {k : Int} {od' : Option Nat} (ho : ∀ g, od' = some g → (L k).od = some g ∨ w.heap.size ≤ g) : LayTo L (fun j => if j = k then ⟨(L k).ib, (L k).eb, od'⟩ else L j) k w := fun j => by
  by_cases hj : j = k
  · subst hj
    simp only [if_pos]
    exact ⟨trivial, trivial, ho⟩
  · simp only [if_neg hj]
    exact ⟨trivial, trivial, fun g hg => .inl hg⟩
/-- The data of an inode, put in its cell. -/
theorem rsz_set (H : FsH fb mb ot L h q cnt T w) {k : Int} {p : Pn} (hk : q k = some p) {W : World} {od' : Option Nat} (f : Fr (fun b => (L k).od = some b) w W) (ho : ∀ g, od' = some g → (L k).od = some g ∨ w.heap.size ≤ g) {v : Value} {d' : List By} (hO : OgB od' v d' W) :
    FsH fb mb ot (fun j => if j = k then ⟨(L k).ib, (L k).eb, od'⟩ else L j) h (fun j => if j = k then some { p with data := d' } else q j) cnt T (W.setCell ⟨(L k).ib, 6, none⟩ v) := by
  obtain ⟨dv, ev, k1, k2, k3, k4⟩ := (H.nd k p hk).blk
  have t1 := tg_cells k1
  have hib : (L k).od ≠ some (L k).ib := fun e => by
    have := H.tod hk _ e
    rw [t1] at this; cases this
  have hib' : od' ≠ some (L k).ib := fun e => by
    rcases ho _ e with e2 | hg
    · exact hib e2
    · have := blt k1; omega
  have f2 : Fr (fun b => b = (L k).ib) W (W.setCell ⟨(L k).ib, 6, none⟩ v) := (Fr.refl (fun b => b = (L k).ib) W).setCell ⟨(L k).ib, 6, none⟩ _ (.inl rfl)
  have fA : Fr (fun b => b = (L k).ib ∨ (L k).od = some b) w (W.setCell ⟨(L k).ib, 6, none⟩ v) := (f.mono (fun i e => .inl (.inr e))).trans (f2.mono (fun i e => .inl (.inl e)))
  refine H.turn hk (p' := { p with data := d' }) rfl ho fA (fun b e => e.imp id (fun e => .inr e)) ⟨v, ev, ?_, ?_, fun hk1 => ⟨(k3 hk1).1, ?_⟩, k4⟩
  · have := rset (f.heap k1 (fun e => hib e)) 6 v
    exact this
  · exact hO.kept f2 (fun g hg e => hib' (by rw [hg, e]))
  · refine (k3 hk1).2.kept fA (fun e => ?_)
    have hm := (k3 hk1).2.tg
    rcases e with e | e
    · rw [e, t1] at hm; cases hm
    · rw [H.tod hk _ e] at hm; cases hm
set_option maxHeartbeats 8000000 in
theorem resize_any (H : FsH fb mb ot L h q cnt T w) {k : Int} {p : Pn} (hk : q k = some p) (n : Nat) (hn : n ≤ 4194304) (hd : p.data.length ≤ 4194304) (hh : 0 ≤ h.held ∧ h.held ≤ 1000000000000) (hb : 0 ≤ h.bytes ∧ h.bytes ≤ 1000000000000) :
    Calls Tryz.prog 96 #[.pointer (some ⟨fb, 0, none⟩), .pointer (some ⟨(L k).ib, 0, none⟩), .int .i64 n] w fun e w' => (h.bytes - h.held < (n : Int) - (p.data.length : Int) ∧ e = .returned (.int .i64 105) ∧ Nw w w') ∨ (¬ h.bytes - h.held < (n : Int) - (p.data.length : Int) ∧ e = .returned (.int .i64 0) ∧ RszO fb mb ot L h q cnt T k p n w w') := by
  obtain ⟨P, hP⟩ : ∃ P : Ending → World → Prop, P = fun e w' => (h.bytes - h.held < (n : Int) - (p.data.length : Int) ∧ e = .returned (.int .i64 105) ∧ Nw w w') ∨ (¬ h.bytes - h.held < (n : Int) - (p.data.length : Int) ∧ e = .returned (.int .i64 0) ∧ RszO fb mb ot L h q cnt T k p n w w') := ⟨_, rfl⟩
  rw [← hP]
  obtain ⟨dv, ev, k1, k2, k3, k4⟩ := (H.nd k p hk).blk
  obtain ⟨da, dc, rfl, hdc1, hdc2⟩ := k2.form
  have x6 := (ndc_of k1).c6
  have hC := H.cs
  have c2 := hC.c2
  have c3 := hC.c3
  have f3 := hC.f3
  have hne : ¬ fb = (L k).ib := fun e => by have := H.tib hk; rw [← e, H.tfb] at this; cases this
  have hne2 : ¬ (L k).ib = fb := fun e => hne e.symm
  have hw1 : IntKind.i64.wrap ((n : Int) - (p.data.length : Int)) = (n : Int) - (p.data.length : Int) := by rw [IntKind.wrap_i64]; omega
  have hw2 : IntKind.i64.wrap (h.bytes - h.held) = h.bytes - h.held := by rw [IntKind.wrap_i64]; omega
  have hw3 : IntKind.i64.wrap (h.held + ((n : Int) - (p.data.length : Int))) = h.held + ((n : Int) - (p.data.length : Int)) := by rw [IntKind.wrap_i64]; omega
  by_cases hmore : h.bytes - h.held < (n : Int) - (p.data.length : Int)
  · have HF : Hid (∀ V, Nw w V → P (.returned (.int .i64 105)) V) := fun V hV => by rw [hP]; exact .inl ⟨hmore, rfl, hV⟩
    have hmd := decide_eq_true hmore
    clear H hC k1 k2 k3 k4 hP
    generalize (L k).ib = ib at *
    generalize p.data.length = dl at *
    go_enter Tryz.func96, Tryz.ntmps96
    go_upto_region 2 with fail
    go_quiet (fail)
    go_wp2_with fail
    exact HF.out _ ((Fr.refl _ _).drewN _)
  · have hmd := decide_eq_false hmore
    have HS : Hid (∀ V, Nw w V → ∃ W1, V.setCell ⟨fb, 3, none⟩ (.int .i64 (h.held + ((n : Int) - (p.data.length : Int)))) = W1 ∧ V.cell? ⟨fb, 3, none⟩ = some (.int .i64 h.held) ∧ V.frozen? ⟨fb, 3, none⟩ = false ∧ W1.cell? ⟨(L k).ib, 6, none⟩ = some (.slice da p.data.length dc) ∧ W1.frozen? ⟨(L k).ib, 6, none⟩ = false ∧ Hid (FsH fb mb ot L (rszH h p n) q cnt T W1 ∧ Fr (fun b => b = fb) w W1)) := fun V hV => by
      have HV := H.nw hV
      obtain ⟨tv, v1, v2⟩ := HV.blk
      have f1 : Fr (fun b => b = fb) V (V.setCell ⟨fb, 3, none⟩ (.int .i64 (h.held + ((n : Int) - (p.data.length : Int))))) := (Fr.refl (fun b => b = fb) V).setCell ⟨fb, 3, none⟩ _ (.inl rfl)
      have hfo : ot ≠ some fb := fun e => by
        have t1 := HV.tot fb e
        rw [HV.tfb] at t1; cases t1
      have H1 : FsH fb mb ot L (rszH h p n) q cnt T (V.setCell ⟨fb, 3, none⟩ (.int .i64 (h.held + ((n : Int) - (p.data.length : Int))))) :=
        HV.head f1 (fun k e => .inl e) (.inl rfl) (tv := tv) (rset v1 3 _) (v2.kept f1 (fun g hg e => hfo (by rw [hg, e])))
      have kk := f1.heap (hV.heap k1) (fun e => hne e.symm)
      exact ⟨_, rfl, HV.cs.c3, HV.cs.f3, (rc kk 6 _ rfl).1, (rc kk 6 _ rfl).2, H1, hV.any.trans f1⟩
    by_cases hge : p.data.length ≤ n
    · obtain ⟨K, hK⟩ : ∃ K, K = n - p.data.length := ⟨_, rfl⟩
      have zK : (n : Int) - (p.data.length : Int) = (K : Int) := by omega
      have HZ : Hid (∀ W1, FsH fb mb ot L (rszH h p n) q cnt T W1 → Fr (fun b => b = fb) w W1 → W1.cell? ⟨(L k).ib, 6, none⟩ = some (.slice da p.data.length dc) → ∃ a' n' c' W2, Hid (∀ ty, (Builtin.append_ #[34, 3] ty #[.slice da p.data.length dc, .int .i64 K]).run Tryz.prog W1 = .ok (.slice a' n' c') W2) ∧ W2.frozen? ⟨(L k).ib, 6, none⟩ = false ∧ (∃ u, W2.cell? ⟨(L k).ib, 6, none⟩ = some u) ∧ Hid (P (.returned (.int .i64 0)) (W2.setCell ⟨(L k).ib, 6, none⟩ (.slice a' n' c')))) := fun W1 H1 f1 hx => by
        obtain ⟨dv1, ev1, m1, m2, _, _⟩ := (H1.nd k p hk).blk
        have e6 := (ndc_of m1).c6
        rw [hx] at e6
        injection e6 with e6
        rw [← e6] at m2
        obtain ⟨v', od', W2, r1, r2, r3, r4⟩ := app_zeros W1 (L k).od _ p.data m2 K (by omega)
        obtain ⟨a', c', rfl, _, _⟩ := r2.form
        have hib : (L k).od ≠ some (L k).ib := fun e => by
          have := H1.tod hk _ e
          rw [tg_cells m1] at this; cases this
        have kk := r3.heap m1 (fun e => hib e)
        refine ⟨a', _, c', W2, r1, (rc kk 6 _ rfl).2, ⟨_, (rc kk 6 _ rfl).1⟩, ?_⟩
        show P _ _
        rw [hP]
        have r5 : ∀ g, od' = some g → (L k).od = some g ∨ W1.heap.size ≤ g := fun g hg => by
          rcases r4 with e | ⟨g', e, hg'⟩
          · exact .inl (e ▸ hg)
          · rw [e] at hg; injection hg with hg; exact .inr (by omega)
        have hR := rsz_set H1 hk r3 r5 r2
        have hD : { p with data := p.data ++ List.replicate K 0#8 } = rszP p n := by
          unfold rszP rszD
          rw [if_pos hge, hK]
        rw [hD] at hR
        have hs1 := f1.size
        refine .inr ⟨hmore, rfl, _, hR, ?_, lay_turn (fun g hg => (r5 g hg).imp id (fun hg => by omega))⟩
        have fa : Fr (fun b => b = fb ∨ b = (L k).ib ∨ (L k).od = some b) w W2 := (f1.mono (fun i e => .inl (.inl e))).trans (r3.mono (fun i e => .inl (.inr (.inr e))))
        exact fa.setCell _ _ (.inl (.inr (.inl rfl)))
      rw [zK] at hw1 hw3 hmd HS
      have zg : (0 : Int) ≤ (K : Int) := by omega
      have zz : (n : Int) - (p.data.length : Int) = (K : Int) := zK
      clear H hC k1 k2 k3 k4 hP hmore hge hK zK
      generalize (L k).ib = ib at *
      generalize p.data.length = dl at *
      go_enter Tryz.func96, Tryz.ntmps96
      go_upto_region 2 with fail
      go_quiet (fail)
      go_upto_region 4 with fail
      obtain ⟨W1, hW1, c31, f31, x61, g61, HH1⟩ := HS.out (w.drewN nq) ((Fr.refl _ _).drewN nq)
      obtain ⟨a', n', c', W2, HAP, g62, ⟨u, x62⟩, HF⟩ := HZ.out W1 HH1.out.1 HH1.out.2 x61
      clear HS HZ HH1
      go_wp2_with (first
        | (at_builtin; refine Lib.wpList_append_run _ rfl _ _ 34 3 rfl (.slice da dl dc) (.int .i64 K) (by simp [Act.eval]) (by simp [Act.eval]) _ _ (HAP.out _) ?_))
      exact HF.out
    · have zK : ¬ (0 : Int) ≤ (n : Int) - (p.data.length : Int) := by omega
      have hnl : n ≤ p.data.length := by omega
      have hda : ∃ g, (L k).od = some g ∧ da = some ⟨g, 0, none⟩ := by
        cases hod : (L k).od with
        | none =>
          rw [hod] at k2
          have := k2.2
          rw [this] at hge; simp at hge
        | some g =>
          rw [hod] at k2
          obtain ⟨xs, e, _⟩ := (k2 : Ow g _ _ _)
          injection e with e
          exact ⟨g, rfl, e⟩
      obtain ⟨g, hod, rfl⟩ := hda
      have HZ : Hid (∀ W1, FsH fb mb ot L (rszH h p n) q cnt T W1 → Fr (fun b => b = fb) w W1 → W1.cell? ⟨(L k).ib, 6, none⟩ = some (.slice (some ⟨g, 0, none⟩) p.data.length dc) → Calls Tryz.prog 68 #[.slice (some ⟨g, 0, none⟩) n dc] W1 fun e w2 => ∃ a' c', e = .returned (.slice a' n c') ∧ w2.frozen? ⟨(L k).ib, 6, none⟩ = false ∧ (∃ u, w2.cell? ⟨(L k).ib, 6, none⟩ = some u) ∧ Hid (P (.returned (.int .i64 0)) (w2.setCell ⟨(L k).ib, 6, none⟩ (.slice a' n c')))) := fun W1 H1 f1 hx => by
        obtain ⟨dv1, ev1, m1, m2, _, _⟩ := (H1.nd k p hk).blk
        have e6 := (ndc_of m1).c6
        rw [hx] at e6
        injection e6 with e6
        rw [← e6] at m2
        have m3 := m2
        rw [hod] at m3
        obtain ⟨c9, e9, h91, h92, h93⟩ := Ow.cut (m3 : Ow g _ _ _) n hnl
        have e10 : dc = c9 := by injection e9
        subst e10
        refine (bcl_any W1 _ n dc (p.data.take n) (by rw [List.length_take]; omega) (.inr ⟨g, fun h => h, h93.slb⟩) (by rw [List.length_take]; omega)).mono ?_
        rintro e w2 ⟨a', c', od', rfl, r2, r3, r4⟩
        have kk := r3.heap m1
        refine ⟨a', c', rfl, (rc kk 6 _ rfl).2, ⟨_, (rc kk 6 _ rfl).1⟩, ?_⟩
        show P _ _
        rw [hP]
        have hR := rsz_set (od' := od') H1 hk (r3.any (X := fun b => (L k).od = some b)) (fun g hg => .inr (r4 g hg)) r2
        have hD : { p with data := p.data.take n } = rszP p n := by
          unfold rszP rszD
          rw [if_neg hge]
        rw [hD] at hR
        have hs1 := f1.size
        refine .inr ⟨hmore, rfl, _, hR, ?_, lay_turn (fun g hg => .inr (by have := r4 g hg; omega))⟩
        have fa : Fr (fun b => b = fb ∨ b = (L k).ib ∨ (L k).od = some b) w w2 := (f1.mono (fun i e => .inl (.inl e))).trans r3.any
        exact fa.setCell _ _ (.inl (.inr (.inl rfl)))
      have hkd : decide ((0 : Int) ≤ (n : Int) - (p.data.length : Int)) = false := decide_eq_false zK
      have zn : (n : Int) ≤ (dc : Int) := by omega
      have zn2 : n ≤ dc := by omega
      have zn3 : (0 : Int) ≤ (n : Int) := by omega
      clear H hC k1 k2 k3 k4 hP hmore hod
      generalize (L k).ib = ib at *
      generalize p.data.length = dl at *
      obtain ⟨mr, hmr⟩ : ∃ mr, (n : Int) - (dl : Int) = mr := ⟨_, rfl⟩
      rw [hmr] at hw1 hw3 hmd hkd HS
      clear zK
      go_enter Tryz.func96, Tryz.ntmps96
      go_upto_region 2 with fail
      go_quiet (fail)
      go_upto_region 4 with fail
      obtain ⟨W1, hW1, c31, f31, x61, g61, HH1⟩ := HS.out (w.drewN nq) ((Fr.refl _ _).drewN nq)
      have HZ2 := tHid (HZ.out W1 HH1.out.1 HH1.out.2 x61)
      clear HS HZ HH1
      go_wp2_with (first | (go_at_call 68; with_reducible refine HZ2.out.mono ?_; rintro e w2 ⟨a', c', rfl, g62, ⟨u, x62⟩, HF⟩))
      exact HF.out
end Go.Proofs.YtcogkhcfpgelhaaGreat

import Derived.Test.YtcogkhcfpgelhaaGreatVbb
import Derived.Test.YtcogkhcfpgelhaaGreatVbd
import Derived.Test.YtcogkhcfpgelhaaGreatVbe
namespace Go.Proofs.YtcogkhcfpgelhaaGreat
open Go.RowKit
set_option linter.unusedVariables false
set_option linter.unusedSimpArgs false
set_option maxRecDepth 100000
variable {fb mb : Nat} {ot : Option Nat} {L : Int → Lay} {h : Hx} {q : Int → Option Pn} {cnt : Nat} {T : List Ac} {w w' : World} {X : Nat → Prop}
theorem iret {R : Ending → World → Prop} {a : Act} {w : World} {row : Array Value} (rs : Nat) (h2 : a.tmps.getD 2 undef = .pointer (some ⟨rs, 0, none⟩)) (hrow : w.heap[rs]? = some (.cells row 37)) (hsz : row.size = 4) (hd : a.defers = []) (hR : R (.returned (.agg row)) w) : bodyPost Tryz.prog Tryz.f19 R .ret a w := by
  have hi : (Tryz.prog.info? 37).map (·.size) = some row.size := by rw [hsz]; kernel_rfl
  have hl := run_loadVar_row (P := Tryz.prog) w rs 37 37 row (0, 0) _ hrow Tryz.underlying37 rfl hi
  have hp2 : a.tmps[2]?.getD undef = .pointer (some ⟨rs, 0, none⟩) := by simpa using h2
  refine bodyPost_ret ?_ hd hR
  simp [results, hp2, asAddr, hl]
theorem stoV_slice (w : World) (g o : Nat) (x : Option Addr) (n c : Nat) (old : Value) (hc : w.cell? ⟨g, o, none⟩ = some old) (hf : w.frozen? ⟨g, o, none⟩ = false) : (stoV 35 (.pointer (some ⟨g, o, none⟩)) (.slice x n c)).run Tryz.prog w = .ok () (w.setCell ⟨g, o, none⟩ (.slice x n c)) := by
  have hi : (Tryz.prog.info? 35).map (·.size) = some 1 := by kernel_rfl
  have hadd : (⟨g, o, none⟩ : Addr).add 0 = ⟨g, o, none⟩ := by unfold Addr.add; split <;> simp_all
  unfold stoV
  simp only [Instr.storeAt, Instr.sureAddr, Sem.run_bind, Sem.run_pure, Result.andThen_ok]
  cases hq : Tryz.prog.info? 35 with
  | none => simp [hq] at hi
  | some i =>
    have hz : i.size = 1 := by simpa [hq] using hi
    simp [storeVar, sizeOf, typeInfo, hq, Value.cells, hz, storeCells, hadd, run_store (P := Tryz.prog) (w := w) (v := .slice x n c) (hv := rfl), hc, hf, Sem.run_bind, Sem.run_pure]
/-- The world behind Image's first statement. -/
def imW (w : World) (h : Hx) : World := (((w.alloc (.cells imZ 37)).alloc (.cells imZ 37)).drew).setRow (w.heap.size + 1) (imC h (.slice none 0 0))
theorem imW_row (w : World) : (((w.alloc (.cells imZ 37)).alloc (.cells imZ 37)).drew).heap[w.heap.size + 1]? = some (.cells imZ 37) := by
  have := nh (w.alloc (.cells imZ 37)) (.cells imZ 37)
  have e : (w.alloc (.cells imZ 37)).heap.size = w.heap.size + 1 := by simp
  rw [e] at this
  exact this
theorem imW_st (w : World) (h : Hx) : (stoV 37 (.pointer (some ⟨w.heap.size + 1, 0, none⟩)) (.agg (imC h (.slice none 0 0)))).run Tryz.prog ((w.alloc (.cells imZ 37)).alloc (.cells imZ 37)).drew = .ok () (imW w h) := stoV_row _ _ 37 37 imZ _ (imW_row w) (by kernel_rfl) rfl (by simp [Value.oneCell'])
theorem imW_nw (w : World) (h : Hx) : Nw (w.alloc (.cells imZ 37)) (imW w h) := (((Fr.refl _ _).alloc _).drew).setRow _ _ (.inr (by simp))
theorem imW_im (w : World) (h : Hx) : Im0 w h (imW w h) := by
  refine ⟨((Fr.refl _ _).alloc _).trans (imW_nw w h), (imW_nw w h).heap (nh w _), ?_, by simp [imW, World.setRow]⟩
  exact setRow_heap _ (w.heap.size + 1) _ _ 37 _ (imW_row w)
-- OPS
def im6o : Oper := { dst := none, op := Op.store 35 (Operand.tmp 62) (Operand.tmp 61), type := 0, pos := "image.go:45", after := #[{ on := 25, ground := Ground.data }, { on := 24, ground := Ground.data }, { on := 24, ground := Ground.chain }, { on := 0, ground := Ground.phase }, { on := 1, ground := Ground.phase }, { on := 2, ground := Ground.phase }, { on := 3, ground := Ground.phase }, { on := 4, ground := Ground.phase }, { on := 5, ground := Ground.phase }, { on := 6, ground := Ground.phase }, { on := 7, ground := Ground.phase }, { on := 8, ground := Ground.phase }, { on := 9, ground := Ground.phase }, { on := 10, ground := Ground.phase }, { on := 11, ground := Ground.phase }, { on := 12, ground := Ground.phase }, { on := 13, ground := Ground.phase }, { on := 14, ground := Ground.phase }, { on := 15, ground := Ground.phase }, { on := 16, ground := Ground.phase }, { on := 17, ground := Ground.phase }, { on := 18, ground := Ground.phase }, { on := 19, ground := Ground.phase }, { on := 20, ground := Ground.phase }, { on := 21, ground := Ground.phase }, { on := 22, ground := Ground.phase }, { on := 23, ground := Ground.phase }, { on := 24, ground := Ground.phase }], guard := none }
def im6 : Array Oper := #[{ dst := some 37, op := Op.fieldAddr 37 (Operand.tmp 3) 3, type := 0, pos := "image.go:45", after := #[], guard := none },
  { dst := some 38, op := Op.load 35 (Operand.tmp 37), type := 35, pos := "image.go:45", after := #[{ on := 0, ground := Ground.data }], guard := none },
  { dst := some 39, op := Op.move (Operand.tmp 5), type := 3, pos := "image.go:45", after := #[], guard := none },
  { dst := some 40, op := Op.move (Operand.tmp 6), type := 97, pos := "image.go:45", after := #[], guard := none },
  { dst := some 41, op := Op.nilCheck (Operand.tmp 40), type := 0, pos := "image.go:45", after := #[{ on := 3, ground := Ground.data }], guard := none },
  { dst := some 42, op := Op.fieldAddr 104 (Operand.tmp 41) 0, type := 0, pos := "image.go:45", after := #[{ on := 4, ground := Ground.data }], guard := none },
  { dst := some 43, op := Op.load 3 (Operand.tmp 42), type := 3, pos := "image.go:45", after := #[{ on := 5, ground := Ground.data }], guard := none },
  { dst := some 44, op := Op.move (Operand.tmp 6), type := 97, pos := "image.go:45", after := #[], guard := none },
  { dst := some 45, op := Op.nilCheck (Operand.tmp 44), type := 0, pos := "image.go:45", after := #[{ on := 7, ground := Ground.data }], guard := none },
  { dst := some 46, op := Op.fieldAddr 104 (Operand.tmp 45) 1, type := 0, pos := "image.go:45", after := #[{ on := 8, ground := Ground.data }], guard := none },
  { dst := some 47, op := Op.load 33 (Operand.tmp 46), type := 33, pos := "image.go:45", after := #[{ on := 9, ground := Ground.data }], guard := none },
  { dst := some 48, op := Op.move (Operand.tmp 6), type := 97, pos := "image.go:45", after := #[], guard := none },
  { dst := some 49, op := Op.nilCheck (Operand.tmp 48), type := 0, pos := "image.go:45", after := #[{ on := 11, ground := Ground.data }], guard := none },
  { dst := some 50, op := Op.fieldAddr 104 (Operand.tmp 49) 2, type := 0, pos := "image.go:45", after := #[{ on := 12, ground := Ground.data }], guard := none },
  { dst := some 51, op := Op.load 34 (Operand.tmp 50), type := 34, pos := "image.go:45", after := #[{ on := 13, ground := Ground.data }], guard := none },
  { dst := some 52, op := Op.call { callee := Callee.value (Operand.func 68), args := #[Operand.tmp 51], argTypes := #[34] }, type := 34, pos := "image.go:47", after := #[{ on := 14, ground := Ground.data }], guard := none },
  { dst := some 53, op := Op.move (Operand.tmp 6), type := 97, pos := "image.go:45", after := #[], guard := none },
  { dst := some 54, op := Op.nilCheck (Operand.tmp 53), type := 0, pos := "image.go:45", after := #[{ on := 16, ground := Ground.data }], guard := none },
  { dst := some 55, op := Op.fieldAddr 104 (Operand.tmp 54) 3, type := 0, pos := "image.go:45", after := #[{ on := 17, ground := Ground.data }], guard := none },
  { dst := some 56, op := Op.load 9 (Operand.tmp 55), type := 9, pos := "image.go:45", after := #[{ on := 18, ground := Ground.data }], guard := none },
  { dst := some 57, op := Op.move (Operand.tmp 6), type := 97, pos := "image.go:45", after := #[], guard := none },
  { dst := some 58, op := Op.call { callee := Callee.value (Operand.func 69), args := #[Operand.tmp 57], argTypes := #[97] }, type := 56, pos := "image.go:47", after := #[{ on := 20, ground := Ground.data }, { on := 15, ground := Ground.chain }], guard := none },
  { dst := some 59, op := Op.build 58 #[(0, Operand.tmp 39), (1, Operand.tmp 43), (2, Operand.tmp 47), (3, Operand.tmp 52), (4, Operand.tmp 56), (5, Operand.tmp 58)], type := 58, pos := "image.go:45", after := #[{ on := 2, ground := Ground.data }, { on := 6, ground := Ground.data }, { on := 10, ground := Ground.data }, { on := 15, ground := Ground.data }, { on := 19, ground := Ground.data }, { on := 21, ground := Ground.data }], guard := none },
  { dst := some 60, op := Op.buildSlice 35 1 #[(0, Operand.tmp 59)], type := 35, pos := "image.go:45", after := #[{ on := 22, ground := Ground.data }], guard := none },
  { dst := some 61, op := Op.call { callee := Callee.builtin Builtin.append, args := #[Operand.tmp 38, Operand.tmp 60], argTypes := #[35, 35] }, type := 35, pos := "image.go:45", after := #[{ on := 1, ground := Ground.data }, { on := 23, ground := Ground.data }, { on := 21, ground := Ground.chain }], guard := none },
  { dst := some 62, op := Op.fieldAddr 37 (Operand.tmp 3) 3, type := 0, pos := "image.go:45", after := #[{ on := 0, ground := Ground.phase }, { on := 1, ground := Ground.phase }, { on := 2, ground := Ground.phase }, { on := 3, ground := Ground.phase }, { on := 4, ground := Ground.phase }, { on := 5, ground := Ground.phase }, { on := 6, ground := Ground.phase }, { on := 7, ground := Ground.phase }, { on := 8, ground := Ground.phase }, { on := 9, ground := Ground.phase }, { on := 10, ground := Ground.phase }, { on := 11, ground := Ground.phase }, { on := 12, ground := Ground.phase }, { on := 13, ground := Ground.phase }, { on := 14, ground := Ground.phase }, { on := 15, ground := Ground.phase }, { on := 16, ground := Ground.phase }, { on := 17, ground := Ground.phase }, { on := 18, ground := Ground.phase }, { on := 19, ground := Ground.phase }, { on := 20, ground := Ground.phase }, { on := 21, ground := Ground.phase }, { on := 22, ground := Ground.phase }, { on := 23, ground := Ground.phase }, { on := 24, ground := Ground.phase }], guard := none },
  { dst := none, op := Op.move (Operand.const (.bool true)), type := 0, pos := "image.go:45", after := #[{ on := 25, ground := Ground.data }, { on := 24, ground := Ground.data }, { on := 24, ground := Ground.chain }, { on := 0, ground := Ground.phase }, { on := 1, ground := Ground.phase }, { on := 2, ground := Ground.phase }, { on := 3, ground := Ground.phase }, { on := 4, ground := Ground.phase }, { on := 5, ground := Ground.phase }, { on := 6, ground := Ground.phase }, { on := 7, ground := Ground.phase }, { on := 8, ground := Ground.phase }, { on := 9, ground := Ground.phase }, { on := 10, ground := Ground.phase }, { on := 11, ground := Ground.phase }, { on := 12, ground := Ground.phase }, { on := 13, ground := Ground.phase }, { on := 14, ground := Ground.phase }, { on := 15, ground := Ground.phase }, { on := 16, ground := Ground.phase }, { on := 17, ground := Ground.phase }, { on := 18, ground := Ground.phase }, { on := 19, ground := Ground.phase }, { on := 20, ground := Ground.phase }, { on := 21, ground := Ground.phase }, { on := 22, ground := Ground.phase }, { on := 23, ground := Ground.phase }, { on := 24, ground := Ground.phase }], guard := none }]
-- OPS END
/-- What Image answers. -/
def ImO (w : World) (h : Hx) (N : List Nd) (e : Ending) (w' : World) : Prop := ∃ a n c l, e = .returned (.agg (imC h (.slice a n c))) ∧ ImI w (.slice a n c) l w' ∧ l.map Nq.x = N ∧ l.length = n
section
attribute [local go_sem ↓] stoV_fold appV_fold
set_option maxHeartbeats 16000000 in
theorem image_any (H : FsH fb mb ot L h q cnt T w) {es : List (Int × Nat)} (hE : Ents MI (fun k => (q k).map fun _ => (L k).ib) cnt es) (hs : (es.map Prod.fst).Pairwise (fun a b => a < b)) (hcnt : cnt ≤ 1000000) (hne : es ≠ []) {eL : Int → List (Tx × Int)} (hI : ImH q eL) :
    Calls Tryz.prog 19 #[.pointer (some ⟨fb, 0, none⟩)] w (ImO w h ((es.map Prod.fst).map (ndq q eL))) := by
  obtain ⟨P, hP⟩ : ∃ P : Ending → World → Prop, P = ImO w h ((es.map Prod.fst).map (ndq q eL)) := ⟨_, rfl⟩
  rw [← hP]
  have hC := H.cs
  have hN1 : Nw w (w.alloc (.cells imZ 37)) := (Fr.refl _ _).alloc _
  have HSA : Hid (∀ U, Nw (w.alloc (.cells imZ 37)) U → U.cell? ⟨fb, 1, none⟩ = some (.int .i64 h.nodes) ∧ U.cell? ⟨fb, 2, none⟩ = some (.int .i64 h.bytes) ∧ U.cell? ⟨fb, 4, none⟩ = some (.int .i64 h.next)) := fun U hU => ⟨(hN1.trans hU).cell hC.c1, (hN1.trans hU).cell hC.c2, (hN1.trans hU).cell hC.c4⟩
  have HPE := tHid hP
  have HH := tHid H
  have HEE := tHid hE
  have HSS := tHid hs
  have HII := tHid hI
  have HNE := tHid hne
  clear hP hE hs hI hne hN1 hC H
  have st1 : (stoV 37 (.pointer (some ⟨w.heap.size + 1, 0, none⟩)) (.agg (imC h (.slice none 0 0)))).run Tryz.prog ((w.alloc (.cells imZ 37)).alloc (.cells imZ 37)).drew = .ok () (imW w h) := imW_st w h
  have st2 : (stoV 37 (.pointer (some ⟨w.heap.size + 1, 0, none⟩)) (.agg (imC h (.slice none 0 0)))).run Tryz.prog ((w.alloc (.cells imZ 37)).drew.alloc (.cells imZ 37)) = .ok () (imW w h) := imW_st w h
  go_enter Tryz.func19, Tryz.ntmps19
  go_upto_region 1 with fail
  go_cut [3] (fun v wx => v = .pointer (some ⟨w.heap.size + 1, 0, none⟩) ∧ Hid (Im0 w h wx))
  case first =>
    go_region_held3 (fun U => U.cell? ⟨fb, 1, none⟩ = some (.int .i64 h.nodes) ∧ U.cell? ⟨fb, 2, none⟩ = some (.int .i64 h.bytes) ∧ U.cell? ⟨fb, 4, none⟩ = some (.int .i64 h.next))
      (first | exact HSA.out _ (imW_nw w h) | exact HSA.out _ (by repeat (first | exact Fr.refl _ _ | apply Fr.drew | apply Fr.drewN | apply Fr.alloc)))
      (fail)
    all_goals go_wp2_with fail
    all_goals go_meet
    all_goals exact ⟨rfl, imW_im w h⟩
  case rest =>
  obtain ⟨rfl, H0⟩ := hcut
  clear HSA
  go_upto_region 2 with fail
  obtain ⟨n0, n1, n2, n3⟩ := H0.out
  have c0 := (HH.out.nw n0).cs.c0
  have CK := tHid (keys_call (some mb) wc)
  have CS : Hid (Calls Tryz.prog 66 #[.func (.func 107) #[] #[.pointer (some ⟨wc.heap.size, 0, none⟩)]] (wc.alloc (.cells #[.map (some mb)] 98)) fun e w' => ∃ g c, e = .returned (.slice (some ⟨g, 0, none⟩) cnt c) ∧ cnt ≤ c ∧ c < 9223372036854775808 ∧ Hid (∃ cur, w.heap.size + 2 ≤ g ∧ ImL w h g cur [] none 0 0 w' ∧ ∀ i (hi : i < (es.map Prod.fst).length), cur[i]? = some (.int .i64 (es.map Prod.fst)[i]))) := by
    have hlen : (es.map Prod.fst).length = cnt := by rw [List.length_map]; exact HEE.out.len
    refine Calls.mono (sorted_call (HH.out.nw n0).mp HEE.out HSS.out hcnt) ?_
    rintro e w' ⟨a, c, rfl, z1, z2, z3, z4⟩
    rw [hlen] at z1
    rcases z4 with z4 | ⟨g, cur, rfl, z5, z6, z7⟩
    · exact absurd (List.map_eq_nil_iff.1 z4) HNE.out
    · exact ⟨g, c, by rw [hlen], z1, z2, cur, by omega, ⟨n0.trans z3, z3.heap n1, z3.heap n2, z6, [], ⟨n0.trans z3, ⟨none, ⟨rfl, rfl⟩, fun g hg => by cases hg⟩, fun y hy => by cases hy⟩, rfl, rfl⟩, z7⟩
  clear H0 n0 n1 n2 n3
  go_wp2_with (first
    | (go_at_call 67; with_reducible refine CK.out.mono ?_; rintro e w2 ⟨rfl, rfl⟩)
    | (go_at_call 66; with_reducible refine CS.out.mono ?_; rintro e w3 ⟨g, c, rfl, hc1, hc2, H3⟩))
  obtain ⟨cur, hg2, hL0, hcur⟩ := H3.out
  have HL0 := tHid hL0
  have HCU := tHid hcur
  have HG2 := tHid hg2
  clear CK CS H3 hL0 hcur hg2 c0
  go_loopg [5, 6, 27] cnt (fun kx x5 x6 i wr => ∃ (I : Nat) (a : Option Addr) (cc : Nat), I ≤ cnt ∧ cnt - I ≤ kx ∧ i = .int .i64 I ∧ Hid (ImL w h g cur (((es.map Prod.fst).take I).map (ndq q eL)) a cc I wr))
  case atStart => exact ⟨0, none, 0, by omega, by omega, rfl, HL0.out⟩
  case round =>
    obtain ⟨I, a, cc, hI, hkx, rfl, HI⟩ := hrel
    have hlen : (es.map Prod.fst).length = cnt := by rw [List.length_map]; exact HEE.out.len
    obtain ⟨j1, j2, j3, j4, j5⟩ := id HI.out
    by_cases hlt : I < cnt
    · have hIl : I < (es.map Prod.fst).length := by rw [hlen]; exact hlt
      have hIe : I < es.length := by rw [List.length_map] at hIl; exact hIl
      obtain ⟨k, hk⟩ : ∃ k, k = (es.map Prod.fst)[I]'hIl := ⟨_, rfl⟩
      have kin : wr.cell? ⟨g, I, none⟩ = some (.int .i64 k) := by rw [hk]; exact (rc j4 I _ (HCU.out I hIl)).1
      have hek : (es[I]'hIe).1 = k := by rw [hk]; simp
      obtain ⟨h64, hqm⟩ := HEE.out.ent (es[I]'hIe) (List.getElem_mem hIe)
      rw [hek] at h64 hqm
      have hq : ∃ p, q k = some p := by
        cases hq : q k with
        | none => rw [hq] at hqm; cases hqm
        | some p => exact ⟨p, rfl⟩
      obtain ⟨p, hq⟩ := hq
      have HR := HH.out.nw j1
      have c0 := HR.cs.c0
      have hl := HR.look_some h64 hq
      obtain ⟨dv, ev, k1, k2, k3, k4⟩ := (HR.nd k p hq).blk
      obtain ⟨da, dc, rfl, _, _⟩ := k2.form
      have HSB : Hid (∀ U, Nw wr U → U.cell? ⟨(L k).ib, 0, none⟩ = some (.int .i64 p.kind) ∧ U.cell? ⟨(L k).ib, 1, none⟩ = some (.int .u32 p.mt.mode) ∧ U.cell? ⟨(L k).ib, 2, none⟩ = some (.int .u32 p.mt.uid) ∧ U.cell? ⟨(L k).ib, 3, none⟩ = some (.int .u32 p.mt.gid) ∧ U.cell? ⟨(L k).ib, 4, none⟩ = some (.int .i64 p.mt.time) ∧ U.cell? ⟨(L k).ib, 5, none⟩ = some (.int .i32 p.mt.nano) ∧ U.cell? ⟨(L k).ib, 6, none⟩ = some (.slice da p.data.length dc) ∧ U.cell? ⟨(L k).ib, 7, none⟩ = some (.string (mk p.tgt))) := fun U hU =>
        ⟨hU.cell (rc k1 0 _ rfl).1, hU.cell (rc k1 1 _ rfl).1, hU.cell (rc k1 2 _ rfl).1, hU.cell (rc k1 3 _ rfl).1, hU.cell (rc k1 4 _ rfl).1, hU.cell (rc k1 5 _ rfl).1, hU.cell (rc k1 6 _ rfl).1, hU.cell (rc k1 7 _ rfl).1⟩
      have HSX : Hid (∀ U, Nw wr U → U.cell? ⟨w.heap.size + 1, 3, none⟩ = some (.slice a I cc)) := fun U hU => hU.cell (rc j3 3 _ rfl).1
      have hibl : (L k).ib < w.heap.size := HH.out.lt _ (.inr (.inr (.inr ⟨k, p, hq, .inl rfl⟩)))
      have HC : Hid (∀ U, Nw wr U → Calls Tryz.prog 68 #[.slice da p.data.length dc] U fun e w5 => ∃ a5 c5, e = .returned (.slice a5 p.data.length c5) ∧ Hid (Nw wr w5 ∧ ∃ od, OgB od (.slice a5 p.data.length c5) p.data w5 ∧ ∀ g, od = some g → w.heap.size ≤ g)) := fun U hU => by
        refine Calls.mono (bcl_any U da p.data.length dc p.data rfl ((k2.nw hU).sl.mono (fun _ h => h.elim)) (by have := (HII.out k p hq).2.2.2; omega)) ?_
        rintro e w5 ⟨a5, c5, od, rfl, o1, o2, o3⟩
        have hsz := (j1.trans hU).size
        exact ⟨a5, c5, rfl, hU.trans o2, od, o1, fun g hg => by have := o3 g hg; omega⟩
      have HLs : Hid (∀ a5 c5 U, Hid (Nw wr U ∧ ∃ od, OgB od (.slice a5 p.data.length c5) p.data U ∧ ∀ g, od = some g → w.heap.size ≤ g) → Calls Tryz.prog 69 #[.pointer (some ⟨(L k).ib, 0, none⟩)] U fun e w6 => ∃ a6 c6, e = .returned (.slice a6 (eL k).length c6) ∧ Hid (Nw wr w6 ∧ NqI w ⟨⟨k, p.kind, p.mt, p.data, p.tgt, eL k⟩, ⟨a5, p.data.length, c5⟩, ⟨a6, (eL k).length, c6⟩⟩ w6)) := fun a5 c5 U hU => by
        obtain ⟨u1, od, u2, u3⟩ := hU.out
        refine Calls.mono (list_any sort_any HII.out (HH.out.nw (j1.trans u1)) hq) ?_
        rintro e w6 ⟨og, a6, c6, rfl, o1, o2, o3⟩
        have hsz := (j1.trans u1).size
        exact ⟨a6, c6, rfl, u1.trans o2, ⟨od, u2.nw o2, u3⟩, og, o1, fun g hg => by have := o3 g hg; omega⟩
      have HPu : Hid (∀ a5 c5 a6 c6 w6, Hid (Nw wr w6 ∧ NqI w ⟨⟨k, p.kind, p.mt, p.data, p.tgt, eL k⟩, ⟨a5, p.data.length, c5⟩, ⟨a6, (eL k).length, c6⟩⟩ w6) → ∃ a7 c7 W, (∀ ty, (appV #[35, 35] ty #[.slice a I cc, .slice (some ⟨w6.heap.size, 0, none⟩) 1 1]).run Tryz.prog (w6.alloc (.cells #[.int .i64 k, .int .i64 p.kind, .int .u32 p.mt.mode, .int .u32 p.mt.uid, .int .u32 p.mt.gid, .int .i64 p.mt.time, .int .i32 p.mt.nano, .slice a5 p.data.length c5, .string (mk p.tgt), .slice a6 (eL k).length c6] 58)) = .ok (.slice a7 (I + 1) c7) W) ∧ W.cell? ⟨w.heap.size + 1, 3, none⟩ = some (.slice a I cc) ∧ W.frozen? ⟨w.heap.size + 1, 3, none⟩ = false ∧ Hid (W.cell? ⟨(L k).ib, 0, none⟩ = some (.int .i64 p.kind) ∧ W.cell? ⟨(L k).ib, 1, none⟩ = some (.int .u32 p.mt.mode) ∧ W.cell? ⟨(L k).ib, 2, none⟩ = some (.int .u32 p.mt.uid) ∧ W.cell? ⟨(L k).ib, 3, none⟩ = some (.int .u32 p.mt.gid) ∧ W.cell? ⟨(L k).ib, 4, none⟩ = some (.int .i64 p.mt.time) ∧ W.cell? ⟨(L k).ib, 5, none⟩ = some (.int .i32 p.mt.nano) ∧ W.cell? ⟨(L k).ib, 6, none⟩ = some (.slice da p.data.length dc) ∧ W.cell? ⟨(L k).ib, 7, none⟩ = some (.string (mk p.tgt))) ∧ Hid ((W.setCell ⟨w.heap.size + 1, 3, none⟩ (.slice a7 (I + 1) c7)).cell? ⟨(L k).ib, 0, none⟩ = some (.int .i64 p.kind) ∧ (W.setCell ⟨w.heap.size + 1, 3, none⟩ (.slice a7 (I + 1) c7)).cell? ⟨(L k).ib, 1, none⟩ = some (.int .u32 p.mt.mode) ∧ (W.setCell ⟨w.heap.size + 1, 3, none⟩ (.slice a7 (I + 1) c7)).cell? ⟨(L k).ib, 2, none⟩ = some (.int .u32 p.mt.uid) ∧ (W.setCell ⟨w.heap.size + 1, 3, none⟩ (.slice a7 (I + 1) c7)).cell? ⟨(L k).ib, 3, none⟩ = some (.int .u32 p.mt.gid) ∧ (W.setCell ⟨w.heap.size + 1, 3, none⟩ (.slice a7 (I + 1) c7)).cell? ⟨(L k).ib, 4, none⟩ = some (.int .i64 p.mt.time) ∧ (W.setCell ⟨w.heap.size + 1, 3, none⟩ (.slice a7 (I + 1) c7)).cell? ⟨(L k).ib, 5, none⟩ = some (.int .i32 p.mt.nano) ∧ (W.setCell ⟨w.heap.size + 1, 3, none⟩ (.slice a7 (I + 1) c7)).cell? ⟨(L k).ib, 6, none⟩ = some (.slice da p.data.length dc) ∧ (W.setCell ⟨w.heap.size + 1, 3, none⟩ (.slice a7 (I + 1) c7)).cell? ⟨(L k).ib, 7, none⟩ = some (.string (mk p.tgt))) ∧ Hid (ImL w h g cur (((es.map Prod.fst).take (I + 1)).map (ndq q eL)) a7 c7 (I + 1) (W.setCell ⟨w.heap.size + 1, 3, none⟩ (.slice a7 (I + 1) c7)))) := fun a5 c5 a6 c6 w6 h6 => by
        obtain ⟨a7, c7, W, r1, r2, r3, r4, r5⟩ := iml_push HI.out (by omega) h6.out.1 _ h6.out.2 HG2.out
        obtain ⟨v1, v2, v3, v4, v5, v6, v7, v8⟩ := HSB.out w6 h6.out.1
        have hnx : ¬ (w.heap.size ≤ (L k).ib ∧ tg w6 (L k).ib = some 58) := fun e => by omega
        have fs : Fr (fun k => k = w.heap.size + 1) W (W.setCell ⟨w.heap.size + 1, 3, none⟩ (.slice a7 (I + 1) c7)) := (Fr.refl (fun k => k = w.heap.size + 1) W).setCell ⟨w.heap.size + 1, 3, none⟩ _ (.inl rfl)
        have hny : ¬ (L k).ib = w.heap.size + 1 := by omega
        refine ⟨a7, c7, W, r1, r2, r3, ⟨r5.cellv v1 hnx, r5.cellv v2 hnx, r5.cellv v3 hnx, r5.cellv v4 hnx, r5.cellv v5 hnx, r5.cellv v6 hnx, r5.cellv v7 hnx, r5.cellv v8 hnx⟩, ⟨fs.cellv (r5.cellv v1 hnx) hny, fs.cellv (r5.cellv v2 hnx) hny, fs.cellv (r5.cellv v3 hnx) hny, fs.cellv (r5.cellv v4 hnx) hny, fs.cellv (r5.cellv v5 hnx) hny, fs.cellv (r5.cellv v6 hnx) hny, fs.cellv (r5.cellv v7 hnx) hny, fs.cellv (r5.cellv v8 hnx) hny⟩, ?_⟩
        · have e1 : ((es.map Prod.fst).take (I + 1)).map (ndq q eL) = ((es.map Prod.fst).take I).map (ndq q eL) ++ [⟨k, p.kind, p.mt, p.data, p.tgt, eL k⟩] := by
            rw [List.take_add_one, List.getElem?_eq_getElem hIl, ← hk, List.map_append]
            simp [ndq, hq]
          rw [e1]
          exact r4
      have hlt2 : (I : Int) < (cnt : Int) := by omega
      have hltd := decide_eq_true hlt2
      have hltn := decide_eq_true hlt
      have hIc : I < c := by omega
      have zwj : IntKind.i64.wrap ((I : Int) + 1) = (I : Int) + 1 := by rw [IntKind.wrap_i64]; omega
      clear HI HH HEE HSS HII HNE HL0 HCU HG2 j1 j2 j3 j4 j5 HPE hlen hIl hIe hk hek h64 hqm hq HR k1 k2 k3 k4 hibl st1 st2
      generalize (L k).ib = ib at *
      generalize p.data.length = dl at *
      generalize (eL k).length = el at *
      generalize mk p.tgt = tt at *
      go_upto_region 6 with fail
      -- REGION 6
      refine wpAny_exact (N := 26) (n := 27) (o := im6o) (ops' := im6) (S := fun U => U.cell? ⟨w.heap.size + 1, 3, none⟩ = some (.slice a I cc) ∧ U.cell? ⟨ib, 0, none⟩ = some (.int .i64 p.kind) ∧ U.cell? ⟨ib, 1, none⟩ = some (.int .u32 p.mt.mode) ∧ U.cell? ⟨ib, 2, none⟩ = some (.int .u32 p.mt.uid) ∧ U.cell? ⟨ib, 3, none⟩ = some (.int .u32 p.mt.gid) ∧ U.cell? ⟨ib, 4, none⟩ = some (.int .i64 p.mt.time) ∧ U.cell? ⟨ib, 5, none⟩ = some (.int .i32 p.mt.nano) ∧ U.cell? ⟨ib, 6, none⟩ = some (.slice da dl dc) ∧ U.cell? ⟨ib, 7, none⟩ = some (.string tt)) (by kernel_rfl) rfl rfl rfl (by kernel_rfl) rfl rfl ?_ (fun hHeld => ?_)
      · exact ⟨HSX.out _ (Fr.refl _ _).drew, HSB.out _ (Fr.refl _ _).drew⟩
      refine wpAnyH_take (i := 0) (oi := { dst := some 37, op := Op.fieldAddr 37 (Operand.tmp 3) 3, type := 0, pos := "image.go:45", after := #[], guard := none }) (v := ?_) rfl (by kernel_rfl) (by kernel_rfl) (by kernel_rfl) (fun _ _ _ h => h) (Or.inl ⟨by rfl, ?_⟩) (by assumption) ?_
      rotate_left
      · intro U hSw; (try dsimp only at hSw); (go_simp <;> with_reducible rfl)
      try simp only [Act.put, List.setIfInBounds_toArray, List.set_cons_zero, List.set_cons_succ]
      refine wpAnyH_take (i := 1) (oi := { dst := some 38, op := Op.load 35 (Operand.tmp 37), type := 35, pos := "image.go:45", after := #[{ on := 0, ground := Ground.data }], guard := none }) (v := ?_) rfl (by kernel_rfl) (by kernel_rfl) (by kernel_rfl) (fun _ _ _ h => h) (Or.inl ⟨by rfl, ?_⟩) (by assumption) ?_
      rotate_left
      · intro U hSw; (try dsimp only at hSw); (go_simp <;> with_reducible rfl)
      try simp only [Act.put, List.setIfInBounds_toArray, List.set_cons_zero, List.set_cons_succ]
      refine wpAnyH_take (i := 2) (oi := { dst := some 39, op := Op.move (Operand.tmp 5), type := 3, pos := "image.go:45", after := #[], guard := none }) (v := ?_) rfl (by kernel_rfl) (by kernel_rfl) (by kernel_rfl) (fun _ _ _ h => h) (Or.inl ⟨by rfl, ?_⟩) (by assumption) ?_
      rotate_left
      · intro U hSw; (try dsimp only at hSw); (go_simp <;> with_reducible rfl)
      try simp only [Act.put, List.setIfInBounds_toArray, List.set_cons_zero, List.set_cons_succ]
      refine wpAnyH_take (i := 3) (oi := { dst := some 40, op := Op.move (Operand.tmp 6), type := 97, pos := "image.go:45", after := #[], guard := none }) (v := ?_) rfl (by kernel_rfl) (by kernel_rfl) (by kernel_rfl) (fun _ _ _ h => h) (Or.inl ⟨by rfl, ?_⟩) (by assumption) ?_
      rotate_left
      · intro U hSw; (try dsimp only at hSw); (go_simp <;> with_reducible rfl)
      try simp only [Act.put, List.setIfInBounds_toArray, List.set_cons_zero, List.set_cons_succ]
      refine wpAnyH_take (i := 4) (oi := { dst := some 41, op := Op.nilCheck (Operand.tmp 40), type := 0, pos := "image.go:45", after := #[{ on := 3, ground := Ground.data }], guard := none }) (v := ?_) rfl (by kernel_rfl) (by kernel_rfl) (by kernel_rfl) (fun _ _ _ h => h) (Or.inl ⟨by rfl, ?_⟩) (by assumption) ?_
      rotate_left
      · intro U hSw; (try dsimp only at hSw); (go_simp <;> with_reducible rfl)
      try simp only [Act.put, List.setIfInBounds_toArray, List.set_cons_zero, List.set_cons_succ]
      refine wpAnyH_take (i := 5) (oi := { dst := some 42, op := Op.fieldAddr 104 (Operand.tmp 41) 0, type := 0, pos := "image.go:45", after := #[{ on := 4, ground := Ground.data }], guard := none }) (v := ?_) rfl (by kernel_rfl) (by kernel_rfl) (by kernel_rfl) (fun _ _ _ h => h) (Or.inl ⟨by rfl, ?_⟩) (by assumption) ?_
      rotate_left
      · intro U hSw; (try dsimp only at hSw); (go_simp <;> with_reducible rfl)
      try simp only [Act.put, List.setIfInBounds_toArray, List.set_cons_zero, List.set_cons_succ]
      refine wpAnyH_take (i := 6) (oi := { dst := some 43, op := Op.load 3 (Operand.tmp 42), type := 3, pos := "image.go:45", after := #[{ on := 5, ground := Ground.data }], guard := none }) (v := ?_) rfl (by kernel_rfl) (by kernel_rfl) (by kernel_rfl) (fun _ _ _ h => h) (Or.inl ⟨by rfl, ?_⟩) (by assumption) ?_
      rotate_left
      · intro U hSw; (try dsimp only at hSw); (go_simp <;> with_reducible rfl)
      try simp only [Act.put, List.setIfInBounds_toArray, List.set_cons_zero, List.set_cons_succ]
      refine wpAnyH_take (i := 7) (oi := { dst := some 44, op := Op.move (Operand.tmp 6), type := 97, pos := "image.go:45", after := #[], guard := none }) (v := ?_) rfl (by kernel_rfl) (by kernel_rfl) (by kernel_rfl) (fun _ _ _ h => h) (Or.inl ⟨by rfl, ?_⟩) (by assumption) ?_
      rotate_left
      · intro U hSw; (try dsimp only at hSw); (go_simp <;> with_reducible rfl)
      try simp only [Act.put, List.setIfInBounds_toArray, List.set_cons_zero, List.set_cons_succ]
      refine wpAnyH_take (i := 8) (oi := { dst := some 45, op := Op.nilCheck (Operand.tmp 44), type := 0, pos := "image.go:45", after := #[{ on := 7, ground := Ground.data }], guard := none }) (v := ?_) rfl (by kernel_rfl) (by kernel_rfl) (by kernel_rfl) (fun _ _ _ h => h) (Or.inl ⟨by rfl, ?_⟩) (by assumption) ?_
      rotate_left
      · intro U hSw; (try dsimp only at hSw); (go_simp <;> with_reducible rfl)
      try simp only [Act.put, List.setIfInBounds_toArray, List.set_cons_zero, List.set_cons_succ]
      refine wpAnyH_take (i := 9) (oi := { dst := some 46, op := Op.fieldAddr 104 (Operand.tmp 45) 1, type := 0, pos := "image.go:45", after := #[{ on := 8, ground := Ground.data }], guard := none }) (v := ?_) rfl (by kernel_rfl) (by kernel_rfl) (by kernel_rfl) (fun _ _ _ h => h) (Or.inl ⟨by rfl, ?_⟩) (by assumption) ?_
      rotate_left
      · intro U hSw; (try dsimp only at hSw); (go_simp <;> with_reducible rfl)
      try simp only [Act.put, List.setIfInBounds_toArray, List.set_cons_zero, List.set_cons_succ]
      refine wpAnyH_take (i := 10) (oi := { dst := some 47, op := Op.load 33 (Operand.tmp 46), type := 33, pos := "image.go:45", after := #[{ on := 9, ground := Ground.data }], guard := none }) (v := ?_) rfl (by kernel_rfl) (by kernel_rfl) (by kernel_rfl) (fun _ _ _ h => h) (Or.inl ⟨by rfl, ?_⟩) (by assumption) ?_
      rotate_left
      · intro U hSw; (try dsimp only at hSw); (go_simp <;> with_reducible rfl)
      try simp only [Act.put, List.setIfInBounds_toArray, List.set_cons_zero, List.set_cons_succ]
      refine wpAnyH_take (i := 11) (oi := { dst := some 48, op := Op.move (Operand.tmp 6), type := 97, pos := "image.go:45", after := #[], guard := none }) (v := ?_) rfl (by kernel_rfl) (by kernel_rfl) (by kernel_rfl) (fun _ _ _ h => h) (Or.inl ⟨by rfl, ?_⟩) (by assumption) ?_
      rotate_left
      · intro U hSw; (try dsimp only at hSw); (go_simp <;> with_reducible rfl)
      try simp only [Act.put, List.setIfInBounds_toArray, List.set_cons_zero, List.set_cons_succ]
      refine wpAnyH_take (i := 12) (oi := { dst := some 49, op := Op.nilCheck (Operand.tmp 48), type := 0, pos := "image.go:45", after := #[{ on := 11, ground := Ground.data }], guard := none }) (v := ?_) rfl (by kernel_rfl) (by kernel_rfl) (by kernel_rfl) (fun _ _ _ h => h) (Or.inl ⟨by rfl, ?_⟩) (by assumption) ?_
      rotate_left
      · intro U hSw; (try dsimp only at hSw); (go_simp <;> with_reducible rfl)
      try simp only [Act.put, List.setIfInBounds_toArray, List.set_cons_zero, List.set_cons_succ]
      refine wpAnyH_take (i := 13) (oi := { dst := some 50, op := Op.fieldAddr 104 (Operand.tmp 49) 2, type := 0, pos := "image.go:45", after := #[{ on := 12, ground := Ground.data }], guard := none }) (v := ?_) rfl (by kernel_rfl) (by kernel_rfl) (by kernel_rfl) (fun _ _ _ h => h) (Or.inl ⟨by rfl, ?_⟩) (by assumption) ?_
      rotate_left
      · intro U hSw; (try dsimp only at hSw); (go_simp <;> with_reducible rfl)
      try simp only [Act.put, List.setIfInBounds_toArray, List.set_cons_zero, List.set_cons_succ]
      refine wpAnyH_take (i := 14) (oi := { dst := some 51, op := Op.load 34 (Operand.tmp 50), type := 34, pos := "image.go:45", after := #[{ on := 13, ground := Ground.data }], guard := none }) (v := ?_) rfl (by kernel_rfl) (by kernel_rfl) (by kernel_rfl) (fun _ _ _ h => h) (Or.inl ⟨by rfl, ?_⟩) (by assumption) ?_
      rotate_left
      · intro U hSw; (try dsimp only at hSw); (go_simp <;> with_reducible rfl)
      try simp only [Act.put, List.setIfInBounds_toArray, List.set_cons_zero, List.set_cons_succ]
      refine wpAnyH_take (i := 16) (oi := { dst := some 53, op := Op.move (Operand.tmp 6), type := 97, pos := "image.go:45", after := #[], guard := none }) (v := ?_) rfl (by kernel_rfl) (by kernel_rfl) (by kernel_rfl) (fun _ _ _ h => h) (Or.inl ⟨by rfl, ?_⟩) (by assumption) ?_
      rotate_left
      · intro U hSw; (try dsimp only at hSw); (go_simp <;> with_reducible rfl)
      try simp only [Act.put, List.setIfInBounds_toArray, List.set_cons_zero, List.set_cons_succ]
      refine wpAnyH_take (i := 17) (oi := { dst := some 54, op := Op.nilCheck (Operand.tmp 53), type := 0, pos := "image.go:45", after := #[{ on := 16, ground := Ground.data }], guard := none }) (v := ?_) rfl (by kernel_rfl) (by kernel_rfl) (by kernel_rfl) (fun _ _ _ h => h) (Or.inl ⟨by rfl, ?_⟩) (by assumption) ?_
      rotate_left
      · intro U hSw; (try dsimp only at hSw); (go_simp <;> with_reducible rfl)
      try simp only [Act.put, List.setIfInBounds_toArray, List.set_cons_zero, List.set_cons_succ]
      refine wpAnyH_take (i := 18) (oi := { dst := some 55, op := Op.fieldAddr 104 (Operand.tmp 54) 3, type := 0, pos := "image.go:45", after := #[{ on := 17, ground := Ground.data }], guard := none }) (v := ?_) rfl (by kernel_rfl) (by kernel_rfl) (by kernel_rfl) (fun _ _ _ h => h) (Or.inl ⟨by rfl, ?_⟩) (by assumption) ?_
      rotate_left
      · intro U hSw; (try dsimp only at hSw); (go_simp <;> with_reducible rfl)
      try simp only [Act.put, List.setIfInBounds_toArray, List.set_cons_zero, List.set_cons_succ]
      refine wpAnyH_take (i := 19) (oi := { dst := some 56, op := Op.load 9 (Operand.tmp 55), type := 9, pos := "image.go:45", after := #[{ on := 18, ground := Ground.data }], guard := none }) (v := ?_) rfl (by kernel_rfl) (by kernel_rfl) (by kernel_rfl) (fun _ _ _ h => h) (Or.inl ⟨by rfl, ?_⟩) (by assumption) ?_
      rotate_left
      · intro U hSw; (try dsimp only at hSw); (go_simp <;> with_reducible rfl)
      try simp only [Act.put, List.setIfInBounds_toArray, List.set_cons_zero, List.set_cons_succ]
      refine wpAnyH_take (i := 20) (oi := { dst := some 57, op := Op.move (Operand.tmp 6), type := 97, pos := "image.go:45", after := #[], guard := none }) (v := ?_) rfl (by kernel_rfl) (by kernel_rfl) (by kernel_rfl) (fun _ _ _ h => h) (Or.inl ⟨by rfl, ?_⟩) (by assumption) ?_
      rotate_left
      · intro U hSw; (try dsimp only at hSw); (go_simp <;> with_reducible rfl)
      try simp only [Act.put, List.setIfInBounds_toArray, List.set_cons_zero, List.set_cons_succ]
      refine wpAnyH_ready (rs := [15]) (by kernel_rfl) (by simp) ?_
      refine AllReadyH.cons (o := { dst := some 52, op := Op.call { callee := Callee.value (Operand.func 68), args := #[Operand.tmp 51], argTypes := #[34] }, type := 34, pos := "image.go:47", after := #[{ on := 14, ground := Ground.data }], guard := none }) rfl (fun K hK => ?_) AllReadyH.nil
      go_simp
      go_at_call 68; refine (HC.out _ (by first | exact Fr.refl _ _ | exact (Fr.refl _ _).drew)).mono ?_; rintro e w5 ⟨a5, c5, rfl, H5⟩
      (try go_wp2_with fail)
      refine hK.out _ _ ?_ (fun hHeld => ?_)
      · exact ⟨HSX.out _ H5.out.1, HSB.out _ H5.out.1⟩
      clear hK K
      try simp only [Act.put, List.setIfInBounds_toArray, List.set_cons_zero, List.set_cons_succ]
      refine wpAnyH_ready (rs := [21]) (by kernel_rfl) (by simp) ?_
      refine AllReadyH.cons (o := { dst := some 58, op := Op.call { callee := Callee.value (Operand.func 69), args := #[Operand.tmp 57], argTypes := #[97] }, type := 56, pos := "image.go:47", after := #[{ on := 20, ground := Ground.data }, { on := 15, ground := Ground.chain }], guard := none }) rfl (fun K hK => ?_) AllReadyH.nil
      go_simp
      go_at_call 69; refine (HLs.out a5 c5 _ H5).mono ?_; rintro e w6 ⟨a6, c6, rfl, H6⟩
      (try go_wp2_with fail)
      refine hK.out _ _ ?_ (fun hHeld => ?_)
      · exact ⟨HSX.out _ H6.out.1, HSB.out _ H6.out.1⟩
      clear hK K
      try simp only [Act.put, List.setIfInBounds_toArray, List.set_cons_zero, List.set_cons_succ]
      obtain ⟨a7, c7, W7, r7, s7, f7, HS7, HT7, HL7⟩ := HPu.out a5 c5 a6 c6 w6 H6
      have o7 := stoV_slice W7 (w.heap.size + 1) 3 a7 (I + 1) c7 _ s7 f7
      refine wpAnyH_take (i := 22) (oi := { dst := some 59, op := Op.build 58 #[(0, Operand.tmp 39), (1, Operand.tmp 43), (2, Operand.tmp 47), (3, Operand.tmp 52), (4, Operand.tmp 56), (5, Operand.tmp 58)], type := 58, pos := "image.go:45", after := #[{ on := 2, ground := Ground.data }, { on := 6, ground := Ground.data }, { on := 10, ground := Ground.data }, { on := 15, ground := Ground.data }, { on := 19, ground := Ground.data }, { on := 21, ground := Ground.data }], guard := none }) (v := ?_) rfl (by kernel_rfl) (by kernel_rfl) (by kernel_rfl) (fun _ _ _ h => h) (Or.inl ⟨by rfl, ?_⟩) (by assumption) ?_
      rotate_left
      · intro U hSw; (try dsimp only at hSw); (go_simp <;> with_reducible rfl)
      try simp only [Act.put, List.setIfInBounds_toArray, List.set_cons_zero, List.set_cons_succ]
      refine wpAnyH_ready (rs := [23]) (by kernel_rfl) (by simp) ?_
      refine AllReadyH.cons (o := { dst := some 60, op := Op.buildSlice 35 1 #[(0, Operand.tmp 59)], type := 35, pos := "image.go:45", after := #[{ on := 22, ground := Ground.data }], guard := none }) rfl (fun K hK => ?_) AllReadyH.nil
      go_simp
      refine hK.out _ _ ?_ (fun hHeld => ?_)
      · exact ⟨HSX.out _ (H6.out.1.alloc _), HSB.out _ (H6.out.1.alloc _)⟩
      clear hK K
      try simp only [Act.put, List.setIfInBounds_toArray, List.set_cons_zero, List.set_cons_succ]
      refine wpAnyH_ready (rs := [24]) (by kernel_rfl) (by simp) ?_
      refine AllReadyH.cons (o := { dst := some 61, op := Op.call { callee := Callee.builtin Builtin.append, args := #[Operand.tmp 38, Operand.tmp 60], argTypes := #[35, 35] }, type := 35, pos := "image.go:45", after := #[{ on := 1, ground := Ground.data }, { on := 23, ground := Ground.data }, { on := 21, ground := Ground.chain }], guard := none }) rfl (fun K hK => ?_) AllReadyH.nil
      go_simp
      refine hK.out _ _ ?_ (fun hHeld => ?_)
      · exact ⟨s7, HS7.out⟩
      clear hK K
      try simp only [Act.put, List.setIfInBounds_toArray, List.set_cons_zero, List.set_cons_succ]
      refine wpAnyH_take (i := 25) (oi := { dst := some 62, op := Op.fieldAddr 37 (Operand.tmp 3) 3, type := 0, pos := "image.go:45", after := #[{ on := 0, ground := Ground.phase }, { on := 1, ground := Ground.phase }, { on := 2, ground := Ground.phase }, { on := 3, ground := Ground.phase }, { on := 4, ground := Ground.phase }, { on := 5, ground := Ground.phase }, { on := 6, ground := Ground.phase }, { on := 7, ground := Ground.phase }, { on := 8, ground := Ground.phase }, { on := 9, ground := Ground.phase }, { on := 10, ground := Ground.phase }, { on := 11, ground := Ground.phase }, { on := 12, ground := Ground.phase }, { on := 13, ground := Ground.phase }, { on := 14, ground := Ground.phase }, { on := 15, ground := Ground.phase }, { on := 16, ground := Ground.phase }, { on := 17, ground := Ground.phase }, { on := 18, ground := Ground.phase }, { on := 19, ground := Ground.phase }, { on := 20, ground := Ground.phase }, { on := 21, ground := Ground.phase }, { on := 22, ground := Ground.phase }, { on := 23, ground := Ground.phase }, { on := 24, ground := Ground.phase }], guard := none }) (v := ?_) rfl (by kernel_rfl) (by kernel_rfl) (by kernel_rfl) (fun _ _ _ h => h) (Or.inl ⟨by rfl, ?_⟩) (by assumption) ?_
      rotate_left
      · intro U hSw; (try dsimp only at hSw); (go_simp <;> with_reducible rfl)
      try simp only [Act.put, List.setIfInBounds_toArray, List.set_cons_zero, List.set_cons_succ]
      refine wpAnyH_take (i := 26) (oi := { dst := none, op := Op.move (Operand.const (.bool true)), type := 0, pos := "image.go:45", after := #[{ on := 25, ground := Ground.data }, { on := 24, ground := Ground.data }, { on := 24, ground := Ground.chain }, { on := 0, ground := Ground.phase }, { on := 1, ground := Ground.phase }, { on := 2, ground := Ground.phase }, { on := 3, ground := Ground.phase }, { on := 4, ground := Ground.phase }, { on := 5, ground := Ground.phase }, { on := 6, ground := Ground.phase }, { on := 7, ground := Ground.phase }, { on := 8, ground := Ground.phase }, { on := 9, ground := Ground.phase }, { on := 10, ground := Ground.phase }, { on := 11, ground := Ground.phase }, { on := 12, ground := Ground.phase }, { on := 13, ground := Ground.phase }, { on := 14, ground := Ground.phase }, { on := 15, ground := Ground.phase }, { on := 16, ground := Ground.phase }, { on := 17, ground := Ground.phase }, { on := 18, ground := Ground.phase }, { on := 19, ground := Ground.phase }, { on := 20, ground := Ground.phase }, { on := 21, ground := Ground.phase }, { on := 22, ground := Ground.phase }, { on := 23, ground := Ground.phase }, { on := 24, ground := Ground.phase }], guard := none }) (v := ?_) rfl (by kernel_rfl) (by kernel_rfl) (by kernel_rfl) (fun _ _ _ h => h) (Or.inl ⟨by rfl, ?_⟩) (by assumption) ?_
      rotate_left
      · intro U hSw; (try dsimp only at hSw); (go_simp <;> with_reducible rfl)
      try simp only [Act.put, List.setIfInBounds_toArray, List.set_cons_zero, List.set_cons_succ]
      refine wpAnyH_done (by kernel_rfl) ?_ _
      show Oper.wp Tryz.prog _ _ _ _ _
      unfold im6o
      go_simp
      -- REGION 6 END
      all_goals go_wp2_with fail
      all_goals (
        go_roundg (cnt - (I + 1))
        case measure => omega
        case rel => exact ⟨I + 1, a7, c7, by omega, by omega, by first | rfl | (congr 1), HL7⟩)
    · have hIe : I = cnt := by omega
      have hlt2 : ¬ (I : Int) < (cnt : Int) := by omega
      have hltd := decide_eq_false hlt2
      have hltn := decide_eq_false hlt
      have hst := stoV_row wr w.heap.size 37 37 imZ (imC h (.slice a I cc)) j2 (by kernel_rfl) rfl (by simp [Value.oneCell'])
      have y0 := (rc j3 0 _ rfl).1
      have y1 := (rc j3 1 _ rfl).1
      have y2 := (rc j3 2 _ rfl).1
      have y3 := (rc j3 3 _ rfl).1
      have HROW := tHid (setRow_heap wr w.heap.size imZ (imC h (.slice a I cc)) 37 _ j2)
      have HF : Hid (P (.returned (.agg (imC h (.slice a I cc)))) (wr.setRow w.heap.size (imC h (.slice a I cc)))) := by
        show P _ _
        rw [HPE.out]
        obtain ⟨l, u1, u2, u3⟩ := j5
        have fs : Fr (fun k => k = w.heap.size) wr (wr.setRow w.heap.size (imC h (.slice a I cc))) := (Fr.refl (fun k => k = w.heap.size) wr).setRow _ _ (.inl rfl)
        have tW := tg_cells j2
        refine ⟨a, I, cc, l, rfl, ?_, by rw [u2, hIe, ← hlen, List.take_length], u3⟩
        obtain ⟨q1, ⟨og, q2, q3⟩, q4⟩ := u1
        refine ⟨q1.then fs (fun i hi => .inr (by omega)), ⟨og, q2.kept fs (fun g' hg' e => ?_), q3⟩, fun z hz => ?_⟩
        · have := ogr_tg q2 g' hg'
          rw [e, tW] at this; exact absurd this (by decide)
        · obtain ⟨⟨od, z1, z2⟩, oe, z3, z4⟩ := q4 z hz
          refine ⟨⟨od, z1.kept fs (fun g' hg' e => ?_), z2⟩, oe, z3.kept fs (fun g' hg' e => ?_), z4⟩
          · rw [hg'] at z1
            have := z1.tg
            rw [e, tW] at this; exact absurd this (by decide)
          · have := ogr_tg z3 g' hg'
            rw [e, tW] at this; exact absurd this (by decide)
      clear HI HH HEE HSS HII HNE HL0 HCU HG2 j1 j2 j3 j4 j5 HPE hlen hIe
      go_wp2_with fail
      exact iret w.heap.size (by first | rfl | simp [Act.put]) HROW.out rfl rfl HF.out
end
end Go.Proofs.YtcogkhcfpgelhaaGreat

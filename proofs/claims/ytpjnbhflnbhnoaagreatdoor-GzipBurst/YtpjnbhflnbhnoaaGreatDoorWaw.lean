import Derived.Test.YtpjnbhflnbhnoaaGreatDoorWav
namespace Go.Proofs.YtpjnbhflnbhnoaaGreatDoor
open Go.RowKit
set_option linter.unusedVariables false
theorem make_words (n : Nat) (hn : n ≤ 1000000) (V : World) : (Instr.makeSlice 211 (.int .i64 n) (.int .i64 n)).run Tryz.prog V = .ok (.slice (some ⟨V.heap.size, 0, none⟩) n n) (V.alloc (.cells (flatR RW (List.replicate n (0, 0))).toArray 196)) := by
  obtain ⟨i, zv, hi, hz, hs, hby, hzc⟩ := rwOk.info
  have h := run_make (P := Tryz.prog) V 211 196 i _ Tryz.underlying211 hi hz .i64 .i64 n n (by omega) (by omega) (by rw [hby, show RW.by_ = 16 from rfl]; omega) (by omega)
  simp only [Int.toNat_natCast, hs] at h
  rw [madeR rwOk zv hzc] at h
  exact h
theorem make_ints (n : Nat) (hn : n ≤ 1000000) (V : World) : (Instr.makeSlice 124 (.int .i64 n) (.int .i64 n)).run Tryz.prog V = .ok (.slice (some ⟨V.heap.size, 0, none⟩) n n) (V.alloc (.cells (flatR RI (List.replicate n 0)).toArray 3)) := by
  obtain ⟨i, zv, hi, hz, hs, hby, hzc⟩ := riOk.info
  have h := run_make (P := Tryz.prog) V 124 3 i _ Tryz.underlying124 hi hz .i64 .i64 n n (by omega) (by omega) (by rw [hby, show RI.by_ = 8 from rfl]; omega) (by omega)
  simp only [Int.toNat_natCast, hs] at h
  rw [madeR riOk zv hzc] at h
  exact h
/-- The code is laid: its rows, and room for its words. -/
def Laid (w : World) (ls : List Nat) (rr : Nat) (pb : Nat) (W : World) : Prop :=
  ∃ cb gw gs, W.heap[pb]? = some (.cells #[.pointer (some ⟨cb, 0, none⟩)] 89) ∧ CdM cb gw gs ls.length (nwd ls) (fr ls) (List.replicate ls.length (0, 0)) (List.replicate (nwd ls) 0) W ∧ W.heap[rr]? = some (.cells (rowC (fr ls)) 209) ∧ Nw w W ∧ w.heap.size ≤ cb ∧ w.heap.size ≤ gw ∧ w.heap.size ≤ gs ∧ w.heap.size ≤ pb ∧ pb ≠ gw ∧ pb ≠ gs
theorem laid_mk (w V W : World) (ls : List Nat) (rr pb cb gw gs : Nat) (hV : Nw w V) (hW : Nw V W) (hr : V.heap[rr]? = some (.cells (rowC (fr ls)) 209)) (hl : ls.length ≤ 320) (hm : nwd ls ≤ 1000000)
    (h1 : W.heap[pb]? = some (.cells #[.pointer (some ⟨cb, 0, none⟩)] 89))
    (h2 : W.heap[cb]? = some (.cells (codeC (.slice (some ⟨gw, 0, none⟩) ls.length ls.length) (.slice (some ⟨gs, 0, none⟩) (nwd ls) (nwd ls)) (fr ls)) 213))
    (h3 : W.heap[gw]? = some (.cells (flatR RW (List.replicate ls.length (0, 0))).toArray 196)) (h4 : W.heap[gs]? = some (.cells (flatR RI (List.replicate (nwd ls) 0)).toArray 3))
    (a1 : V.heap.size ≤ cb) (a2 : V.heap.size ≤ gw) (a3 : V.heap.size ≤ gs) (a4 : V.heap.size ≤ pb) (d1 : cb ≠ gw) (d2 : cb ≠ gs) (d3 : gw ≠ gs) (d4 : pb ≠ gw) (d5 : pb ≠ gs) : Laid w ls rr pb W := by
  have := hV.size
  exact ⟨cb, gw, gs, h1, ⟨h2, h3, h4, by simp, by simp, d1, d2, d3, by omega, hm⟩, hW.heap hr, hV.trans hW, by omega, by omega, by omega, by omega, d4, d5⟩
theorem step_call_words {ops : Array Oper} {o : Oper} {a : Act} {w : World} {K : Act → World → Prop} {Q : Exit → Act → World → Prop} {E : Prop} (hg : o.guard = none) (x : Operand) (T : Nat) (hop : o.op = Op.call { callee := Callee.value (Operand.func 157), args := #[x], argTypes := #[T] })
    (vx : Value) (hx : a.eval x = vx) (R : Ending → World → Prop) (hc : Calls Tryz.prog 157 #[vx] w R) (hK : ∀ e w', R e w' → ∃ v, e = .returned v ∧ K (a.put o.dst v) w') :
    if Region.wanted o (yielded ops a.tmps) = true then Oper.wp Tryz.prog o a w K Q else E := by
  have hw : Region.wanted o (yielded ops a.tmps) = true := by simp [Region.wanted, hg]
  rw [if_pos hw]
  unfold Oper.wp
  have e : (execOp a.eval o).run Tryz.prog w = .ok (.enter 157 #[vx]) w := by
    simp [execOp, hop, resolve, invoke, hx, Result.andThen]
    simp [Act.eval, Deferred.ofValue]
  rw [e, Oper.upon_enter]
  refine hc.mono ?_
  intro e w' h
  obtain ⟨v, rfl, hk⟩ := hK e w' h
  exact hk
set_option maxHeartbeats 8000000 in
set_option maxRecDepth 100000 in
theorem newCode_yes (w : World) (v : Value) (ls : List Nat) (h : SlR RI (fun k => w.heap.size ≤ k) v (toI ls) w) (hk : Cod ls) : Calls Tryz.prog 118 #[v] w fun e w' => ∃ cb gw gs ws ss, e = .returned (.tuple #[.pointer (some ⟨cb, 0, none⟩), .int .i64 0]) ∧ CodeI cb gw gs ls ws ss w' ∧ Nw w w' ∧ w.heap.size ≤ cb ∧ w.heap.size ≤ gw ∧ w.heap.size ≤ gs := by
  obtain ⟨P, hP⟩ : ∃ P : Ending → World → Prop, P = fun e w' => ∃ cb gw gs ws ss, e = .returned (.tuple #[.pointer (some ⟨cb, 0, none⟩), .int .i64 0]) ∧ CodeI cb gw gs ls ws ss w' ∧ Nw w w' ∧ w.heap.size ≤ cb ∧ w.heap.size ≤ gw ∧ w.heap.size ≤ gs := ⟨_, rfl⟩
  rw [← hP]
  have hlen := hk.len
  have hzl : (toI ls).length ≤ 17592186043904 := by rw [toI_length]; omega
  have hok : okL (toI ls) := by
    refine ⟨fun z hz => ?_, by rw [toI_length]; exact hlen⟩
    obtain ⟨n, hn, rfl⟩ := List.mem_map.1 hz
    obtain ⟨i, hi⟩ := List.mem_iff_getElem?.1 hn
    have := hk.each i
    rw [List.getD_eq_getElem?_getD, hi] at this
    simp only [Option.getD_some] at this
    omega
  have hcb := canBe_any w v (toI ls) (h.mono (fun _ h => h.elim)) hzl
  have hpos := hk.pos
  have hfit := hk.fit
  have hpcb := pc_bound ls hlen 15
  have hct : ct ls 15 ≤ 320 := by rw [ct_pos _ _ (by decide)]; exact Nat.le_trans (List.count_le_length) hlen
  have hnwd : nwd ls ≤ 10000 := by unfold nwd; omega
  have HC1 : Hid (Calls Tryz.prog 154 #[v] w fun e w' => e = .returned (.bool true) ∧ w = w') := hcb.mono (fun e w' ⟨⟨b, he, hb⟩, hw⟩ => ⟨by rw [he, hb.2 hok], hw.symm⟩)
  have HC2 : Hid (Calls Tryz.prog 155 #[v] w fun e w' => e = .returned (.agg (rowC (fr ls))) ∧ Hid (Nw w w')) := rowsOf_any w v ls h hlen hk.each
  have HC3 : Hid (∀ V, Calls Tryz.prog 156 #[.agg (rowC (fr ls))] V fun e w' => e = .returned (.int .i64 (room ls)) ∧ Hid (Nw V w')) := fun V => room_any V (fr ls) (by show room ls ≤ _; omega)
  have HC4 : Hid (∀ V, Calls Tryz.prog 157 #[.agg (rowC (fr ls))] V fun e w' => e = .returned (.int .i64 (nwd ls)) ∧ w' = V.alloc (.cells (rowC (fr ls)) 209)) := fun V => nwords_any V (fr ls) (by show nwd ls ≤ _; omega)
  have hmw := make_words ls.length (by omega)
  have hmi := make_ints (nwd ls) (by omega)
  have hbd : ∀ g1 g2 V, (Instr.build 213 #[(0, .slice (some ⟨g1, 0, none⟩) ls.length ls.length), (1, .slice (some ⟨g2, 0, none⟩) (nwd ls) (nwd ls)), (2, .agg (rowC (fr ls)))]).run Tryz.prog V = .ok (.agg (codeC (.slice (some ⟨g1, 0, none⟩) ls.length ls.length) (.slice (some ⟨g2, 0, none⟩) (nwd ls) (nwd ls)) (fr ls))) V := fun g1 g2 V => build_code (fr ls) g1 g2 _ _ V
  have HLD : Hid (∀ rr pb cb gw gs V W, _ → _ → _ → _ → _ → _ → _ → _ → _ → _ → _ → _ → _ → _ → _ → _ → Laid w ls rr pb W) := fun rr pb cb gw gs V W x1 x2 x3 x4 x5 x6 x7 x8 x9 x10 x11 x12 x13 x14 x15 x16 => laid_mk w V W ls rr pb cb gw gs x1 x2 x3 hlen (by omega) x4 x5 x6 x7 x8 x9 x10 x11 x12 x13 x14 x15 x16
  have hsz := rowC_size (fr ls)
  have hone := rowC_one (fr ls)
  have HSL : Hid (SlR RI (fun k => w.heap.size ≤ k) v (toI ls) w) := h
  have HK : Hid (Cod ls) := hk
  obtain ⟨a, c, rfl, hca, hc2, hcc⟩ := h.form
  have HP : Hid (P = fun e w' => ∃ cb gw gs ws ss, e = .returned (.tuple #[.pointer (some ⟨cb, 0, none⟩), .int .i64 0]) ∧ CodeI cb gw gs ls ws ss w' ∧ Nw w w' ∧ w.heap.size ≤ cb ∧ w.heap.size ≤ gw ∧ w.heap.size ≤ gs) := hP
  rw [toI_length] at hca HC1 HC2 HSL ⊢
  clear hP hcb h hpcb hct hok hzl hk
  obtain ⟨A, hA⟩ : ∃ A, A = rowC (fr ls) := ⟨_, rfl⟩
  rw [← hA] at hsz hone HC2 HC3 HC4 HLD hbd
  obtain ⟨CW, hCW⟩ : ∃ C, C = (flatR RW (List.replicate ls.length (0, 0))).toArray := ⟨_, rfl⟩
  rw [← hCW] at hmw HLD
  obtain ⟨CS, hCS⟩ : ∃ C, C = (flatR RI (List.replicate (nwd ls) 0)).toArray := ⟨_, rfl⟩
  rw [← hCS] at hmi HLD
  obtain ⟨CC, hCC⟩ : ∃ C : Nat → Nat → Array Value, C = fun g1 g2 => codeC (.slice (some ⟨g1, 0, none⟩) ls.length ls.length) (.slice (some ⟨g2, 0, none⟩) (nwd ls) (nwd ls)) (fr ls) := ⟨_, rfl⟩
  have hbd' : ∀ g1 g2 V, (Instr.build 213 #[(0, .slice (some ⟨g1, 0, none⟩) ls.length ls.length), (1, .slice (some ⟨g2, 0, none⟩) (nwd ls) (nwd ls)), (2, .agg A)]).run Tryz.prog V = .ok (.agg (CC g1 g2)) V := fun g1 g2 V => by rw [hCC]; exact hbd g1 g2 V
  clear hbd
  have hA' : Hid (A = rowC (fr ls)) := hA
  have hCW' : Hid (CW = (flatR RW (List.replicate ls.length (0, 0))).toArray) := hCW
  have hCS' : Hid (CS = (flatR RI (List.replicate (nwd ls) 0)).toArray) := hCS
  have hCC' : Hid (CC = fun g1 g2 => codeC (.slice (some ⟨g1, 0, none⟩) ls.length ls.length) (.slice (some ⟨g2, 0, none⟩) (nwd ls) (nwd ls)) (fr ls)) := hCC
  clear hA hCW hCS hCC
  generalize hL : ls.length = L at *
  have hL' : Hid (ls.length = L) := hL
  generalize hM : nwd ls = M at *
  have hM' : Hid (nwd ls = M) := hM
  generalize room ls = R at *
  clear hL hM
  have hz1 : ((R : Int) == 0) = false := by simp; omega
  have hz2 : ¬ (32768 : Int) < (R : Int) := by omega
  have hld : ∀ (rr : Nat) (V : World), V.heap[rr]? = some (.cells A 209) → (Instr.loadAt 209 (.pointer (some ⟨rr, 0, none⟩))).run Tryz.prog V = .ok (.agg A) V := fun rr V hV => by
    simp only [Instr.loadAt, Instr.sureAddr, Sem.run_bind, Sem.run_pure, Result.andThen_ok]
    exact run_loadVar_row V rr 209 209 A (0, 0) _ hV Tryz.underlying209 rfl (by rw [size90, hsz])
  go_enter Tryz.func118, Tryz.ntmps118
  go_upto_region 4 with (first | (go_at_call 154; (with_reducible refine HC1.out.mono ?_); rintro e w1 ⟨rfl, rfl⟩) | (go_at_call 155; (with_reducible refine HC2.out.mono ?_); rintro e w2 ⟨rfl, H2⟩) | (refine wpList_store_row rfl 209 _ _ rfl w2.heap.size A (by first | rfl | simp [Act.eval]) (by first | rfl | simp [Act.eval]) 209 _ (new_heap w2 _) (by rw [size90, hsz]) (by rw [hsz]; rfl) hone ?_))
  rw [← rowC_zero]
  have hr : ((w2.alloc (.cells (rowC fun _ _ => 0) 209)).setRow w2.heap.size A).heap[w2.heap.size]? = some (.cells A 209) := setRow_heap _ _ _ _ 209 _ (new_heap w2 _)
  have HN3 : Hid (Nw w ((w2.alloc (.cells (rowC fun _ _ => 0) 209)).setRow w2.heap.size A)) := (H2.out.trans ((Fr.refl _ _).alloc _)).setRow _ _ (.inr H2.out.size)
  generalize (w2.alloc (.cells (rowC fun _ _ => 0) 209)).setRow w2.heap.size A = W3 at *
  obtain ⟨rr, hrr⟩ : ∃ r, r = w2.heap.size := ⟨_, rfl⟩
  rw [← hrr] at hr
  rw [← hrr]
  clear hrr HC1 HC2 H2
  go_upto_region 6 with (first | (refine wpList_load_row rfl 209 _ rfl rr (by first | rfl | simp [Act.eval]) 209 A (0, 0) _ hr Tryz.underlying209 rfl (by rw [size90, hsz]) ?_) | (go_at_call 156; (with_reducible refine (HC3.out W3).mono ?_); rintro e w4 ⟨rfl, H4⟩; have hr4 := H4.out.heap hr) | (refine load_row_g (by first | rfl | simp) _ rfl rr (by first | rfl | simp [Act.eval]) A hr4 hsz ?_) | (go_at_call 156; (with_reducible refine (HC3.out _).mono ?_); rintro e w5 ⟨rfl, H5⟩))
  have hr5 := H5.out.heap hr4
  have HN5 : Hid (Nw w w5) := (HN3.out.trans H4.out).trans H5.out
  clear HC3 H4 H5 hr hr4 HN3
  have hl5 := hld rr
  clear hld
  go_cut [5] (fun t5 wx => ∃ pb, t5 = .pointer (some ⟨pb, 0, none⟩) ∧ Hid (Laid w ls rr pb wx))
  case first =>
    obtain ⟨AL, rfl⟩ : ∃ AL : List Value, A = AL.toArray := ⟨A.toList, by simp⟩
    have hS0 : w5.rangeAt rr 0 AL := rng_of hr5
    have hS1 : w5.drew.rangeAt rr 0 AL := hS0
    have hun := Tryz.underlying209
    have hss : (Tryz.prog.info? 209).map (·.size) = some AL.length := by rw [size90, ← hsz]; simp
    have hrl : rr < w5.heap.size := (Array.getElem?_eq_some_iff.1 hr5).1
    have LEAF : Hid (∀ V pb cb gw gs, Nw w5 V → V.heap[pb]? = some (.cells #[.pointer none] 89) → V.heap[cb]? = some (.cells (CC gw gs) 213) → V.heap[gw]? = some (.cells CW 196) → V.heap[gs]? = some (.cells CS 3) → w5.heap.size ≤ cb → w5.heap.size ≤ gw → w5.heap.size ≤ gs → w5.heap.size ≤ pb → cb ≠ gw → cb ≠ gs → gw ≠ gs → pb ≠ gw → pb ≠ gs ∧ pb ≠ cb → Hid (Laid w ls rr pb (V.setRow pb #[.pointer (some ⟨cb, 0, none⟩)]))) := fun V pb cb gw gs x1 x2 x3 x4 x5 x6 x7 x8 x9 x10 x11 x12 x13 x14 => by
      have hf : Fr (fun k => k = pb) V (V.setRow pb #[.pointer (some ⟨cb, 0, none⟩)]) := Fr.setRow (X := fun k => k = pb) (Fr.refl _ V) pb _ (.inl rfl)
      rw [hCC'.out] at x3
      exact HLD.out rr pb cb gw gs w5 _ HN5.out (x1.setRow _ _ (.inr x9)) hr5 (setRow_heap V pb _ _ 89 _ x2) (row_kept x3 hf (fun e => x14.2 e.symm)) (row_kept x4 hf (fun e => x13 e.symm)) (row_kept x5 hf (fun e => x14.1 e.symm)) x6 x7 x8 x9 x10 x11 x12 x13 x14.1
    clear HLD HN5 hCC' hA' hCW' hCS' HSL HK HP
    refine wp_region_noPanic ?_
    refine wp_region_held_drew (S := fun w' => w'.rangeAt rr 0 AL) (by kernel_rfl) hS1 (fun hHeld => ?_)
    -- ORDERS
    refine wpAnyH_take (i := 3) (oi := { dst := some 22, op := Op.load 209 (Operand.tmp 4), type := 209, pos := "code.go:34", after := #[], guard := none }) (v := .agg AL.toArray) rfl (by kernel_rfl) (by kernel_rfl) (by kernel_rfl) (fun _ _ _ h => h) (yieldsIf_load_mid (by rfl) _ _ rfl rr 0 rfl AL _ (fun w h => h) hun rfl hss) (by assumption) ?_
    simp only [Act.put, List.setIfInBounds_toArray, List.set_cons_zero, List.set_cons_succ]
    refine wpAnyH_take (i := 6) (oi := { dst := some 25, op := Op.load 209 (Operand.tmp 4), type := 209, pos := "code.go:34", after := #[], guard := none }) (v := .agg AL.toArray) rfl (by kernel_rfl) (by kernel_rfl) (by kernel_rfl) (fun _ _ _ h => h) (yieldsIf_load_mid (by rfl) _ _ rfl rr 0 rfl AL _ (fun w h => h) hun rfl hss) (by assumption) ?_
    simp only [Act.put, List.setIfInBounds_toArray, List.set_cons_zero, List.set_cons_succ]
    refine wpAnyH_take (i := 0) (oi := { dst := some 19, op := Op.move (Operand.tmp 0), type := 124, pos := "code.go:34", after := #[], guard := none }) (v := .slice a L c) rfl (by kernel_rfl) (by kernel_rfl) (by kernel_rfl) (fun _ _ _ h => h) (Or.inl ⟨by rfl, fun w hw => by rfl⟩) (by assumption) ?_
    simp only [Act.put, List.setIfInBounds_toArray, List.set_cons_zero, List.set_cons_succ]
    refine wpAnyH_take (i := 1) (oi := { dst := some 20, op := Op.call { callee := Callee.builtin Builtin.len, args := #[Operand.tmp 19], argTypes := #[124] }, type := 3, pos := "code.go:34", after := #[{ on := 0, ground := Ground.data }], guard := none }) (v := .int .i64 L) rfl (by kernel_rfl) (by kernel_rfl) (by kernel_rfl) (fun _ _ _ h => h) (Or.inl ⟨by rfl, fun w hw => by go_simp⟩) (by assumption) ?_
    simp only [Act.put, List.setIfInBounds_toArray, List.set_cons_zero, List.set_cons_succ]
    refine wpAnyH_ready (rs := [2, 4, 9]) (by kernel_rfl) (by simp) ?_
    refine AllReadyH.cons (o := { dst := some 21, op := Op.makeSlice 211 (Operand.tmp 20) (Operand.tmp 20), type := 211, pos := "code.go:34", after := #[{ on := 1, ground := Ground.data }, { on := 1, ground := Ground.data }], guard := none }) rfl (fun K hK => ?_) ?_
    · refine step_mw rfl rfl (by rfl) (hmw _) ?_
      refine hK.out _ _ (rng_alloc (by assumption) _) (fun hHeld => ?_)
      clear hK K
      simp only [Act.put, List.setIfInBounds_toArray, List.set_cons_zero, List.set_cons_succ, hs_drew]
      refine wpAnyH_ready (rs := [4, 9]) (by kernel_rfl) (by simp) ?_
      refine AllReadyH.cons (o := { dst := some 23, op := Op.call { callee := Callee.value (Operand.func 157), args := #[Operand.tmp 22], argTypes := #[209] }, type := 3, pos := "code.go:34", after := #[{ on := 3, ground := Ground.data }], guard := none }) rfl (fun K hK => ?_) ?_
      · refine step_call_words rfl _ _ rfl (.agg AL.toArray) (by rfl) _ (HC4.out _) ?_
        rintro e w6 ⟨rfl, rfl⟩
        refine ⟨_, rfl, ?_⟩
        refine hK.out _ _ (rng_alloc (by assumption) _) (fun hHeld => ?_)
        clear hK K
        simp only [Act.put, List.setIfInBounds_toArray, List.set_cons_zero, List.set_cons_succ]
        refine wpAnyH_ready (rs := [5, 9]) (by kernel_rfl) (by simp) ?_
        refine AllReadyH.cons (o := { dst := some 24, op := Op.makeSlice 124 (Operand.tmp 23) (Operand.tmp 23), type := 124, pos := "code.go:34", after := #[{ on := 4, ground := Ground.data }, { on := 4, ground := Ground.data }], guard := none }) rfl (fun K hK => ?_) ?_
        · refine step_mi rfl rfl (by rfl) (hmi _) ?_
          refine hK.out _ _ (rng_alloc (by assumption) _) (fun hHeld => ?_)
          clear hK K
          simp only [Act.put, List.setIfInBounds_toArray, List.set_cons_zero, List.set_cons_succ, hs_alloc, hs_drew, Nat.add_assoc, Nat.reduceAdd]
          refine wpAnyH_take (i := 7) (oi := { dst := some 26, op := Op.build 213 #[(0, Operand.tmp 21), (1, Operand.tmp 24), (2, Operand.tmp 25)], type := 213, pos := "code.go:34", after := #[{ on := 2, ground := Ground.data }, { on := 5, ground := Ground.data }, { on := 6, ground := Ground.data }], guard := none }) (v := .agg (CC (w5.heap.size) (w5.heap.size + 2))) rfl (by kernel_rfl) (by kernel_rfl) (by kernel_rfl) (fun _ _ _ h => h) (yields_build rfl rfl (by rfl) (by rfl) (by rfl) (hbd' _ _)) (by assumption) ?_
          simp only [Act.put, List.setIfInBounds_toArray, List.set_cons_zero, List.set_cons_succ]
          refine wpAnyH_ready (rs := [8, 9]) (by kernel_rfl) (by simp) ?_
          refine AllReadyH.cons (o := { dst := some 27, op := Op.box 213 (Operand.tmp 26), type := 89, pos := "code.go:34", after := #[{ on := 7, ground := Ground.data }], guard := none }) rfl (fun K hK => ?_) ?_
          · refine step_bx rfl rfl (by rfl) ?_
            refine hK.out _ _ (rng_alloc (by assumption) _) (fun hHeld => ?_)
            clear hK K
            simp only [Act.put, List.setIfInBounds_toArray, List.set_cons_zero, List.set_cons_succ, hs_alloc, hs_drew, Nat.add_assoc, Nat.reduceAdd]
            refine wpAnyH_ready (rs := [9]) (by kernel_rfl) (by simp) ?_
            refine AllReadyH.cons (o := { dst := some 5, op := Op.alloc 89, type := 0, pos := "code.go:34", after := #[], guard := none }) rfl (fun K hK => ?_) ?_
            · refine step_al rfl rfl ?_
              refine hK.out _ _ (rng_alloc (by assumption) _) (fun hHeld => ?_)
              clear hK K
              simp only [Act.put, List.setIfInBounds_toArray, List.set_cons_zero, List.set_cons_succ, hs_alloc, hs_drew, Nat.add_assoc, Nat.reduceAdd]
              refine wpAnyH_ready (rs := [10]) (by kernel_rfl) (by simp) ?_
              refine AllReadyH.cons (o := { dst := none, op := Op.store 89 (Operand.tmp 5) (Operand.tmp 27), type := 0, pos := "code.go:34", after := #[{ on := 9, ground := Ground.data }, { on := 8, ground := Ground.data }, { on := 4, ground := Ground.chain }, { on := 0, ground := Ground.phase }, { on := 1, ground := Ground.phase }, { on := 2, ground := Ground.phase }, { on := 3, ground := Ground.phase }, { on := 4, ground := Ground.phase }, { on := 5, ground := Ground.phase }, { on := 6, ground := Ground.phase }, { on := 7, ground := Ground.phase }, { on := 8, ground := Ground.phase }, { on := 9, ground := Ground.phase }], guard := none }) rfl (fun K hK => ?_) ?_
              · refine step_st (u := .pointer none) rfl rfl (by rfl) (by rfl) (by simp only [hp_alloc, hs_alloc, hs_drew, Nat.add_assoc, Nat.reduceAdd]; repeat (first | rw [if_pos trivial] | rw [if_pos rfl] | rw [if_neg (by omega)])) ?_
                refine hK.out _ _ (rng_set (by assumption) _ _ (by omega)) (fun hHeld => ?_)
                clear hK K
                simp only [Act.put]
                refine wpAnyH_done (by kernel_rfl) ?_ _
                refine NoPanic.normal ?_
                go_wp2_with fail
                go_meet
                exact ⟨_, rfl, LEAF.out _ (w5.heap.size + 4) (w5.heap.size + 3) (w5.heap.size) (w5.heap.size + 2) (((((((Fr.refl _ w5).drew).alloc _).alloc _).alloc _).alloc _).alloc _) (by simp only [hp_alloc, hs_alloc, hs_drew, Nat.add_assoc, Nat.reduceAdd]; repeat (first | rw [if_pos trivial] | rw [if_pos rfl] | rw [if_neg (by omega)])) (by simp only [hp_alloc, hs_alloc, hs_drew, Nat.add_assoc, Nat.reduceAdd]; repeat (first | rw [if_pos trivial] | rw [if_pos rfl] | rw [if_neg (by omega)])) (by simp only [hp_alloc, hs_alloc, hs_drew, Nat.add_assoc, Nat.reduceAdd]; repeat (first | rw [if_pos trivial] | rw [if_pos rfl] | rw [if_neg (by omega)])) (by simp only [hp_alloc, hs_alloc, hs_drew, Nat.add_assoc, Nat.reduceAdd]; repeat (first | rw [if_pos trivial] | rw [if_pos rfl] | rw [if_neg (by omega)])) (by omega) (by omega) (by omega) (by omega) (by omega) (by omega) (by omega) (by omega) ⟨by omega, by omega⟩⟩
              exact AllReadyH.nil
            exact AllReadyH.nil
          refine AllReadyH.cons (o := { dst := some 5, op := Op.alloc 89, type := 0, pos := "code.go:34", after := #[], guard := none }) rfl (fun K hK => ?_) ?_
          · refine step_al rfl rfl ?_
            refine hK.out _ _ (rng_alloc (by assumption) _) (fun hHeld => ?_)
            clear hK K
            simp only [Act.put, List.setIfInBounds_toArray, List.set_cons_zero, List.set_cons_succ, hs_alloc, hs_drew, Nat.add_assoc, Nat.reduceAdd]
            refine wpAnyH_ready (rs := [8]) (by kernel_rfl) (by simp) ?_
            refine AllReadyH.cons (o := { dst := some 27, op := Op.box 213 (Operand.tmp 26), type := 89, pos := "code.go:34", after := #[{ on := 7, ground := Ground.data }], guard := none }) rfl (fun K hK => ?_) ?_
            · refine step_bx rfl rfl (by rfl) ?_
              refine hK.out _ _ (rng_alloc (by assumption) _) (fun hHeld => ?_)
              clear hK K
              simp only [Act.put, List.setIfInBounds_toArray, List.set_cons_zero, List.set_cons_succ, hs_alloc, hs_drew, Nat.add_assoc, Nat.reduceAdd]
              refine wpAnyH_ready (rs := [10]) (by kernel_rfl) (by simp) ?_
              refine AllReadyH.cons (o := { dst := none, op := Op.store 89 (Operand.tmp 5) (Operand.tmp 27), type := 0, pos := "code.go:34", after := #[{ on := 9, ground := Ground.data }, { on := 8, ground := Ground.data }, { on := 4, ground := Ground.chain }, { on := 0, ground := Ground.phase }, { on := 1, ground := Ground.phase }, { on := 2, ground := Ground.phase }, { on := 3, ground := Ground.phase }, { on := 4, ground := Ground.phase }, { on := 5, ground := Ground.phase }, { on := 6, ground := Ground.phase }, { on := 7, ground := Ground.phase }, { on := 8, ground := Ground.phase }, { on := 9, ground := Ground.phase }], guard := none }) rfl (fun K hK => ?_) ?_
              · refine step_st (u := .pointer none) rfl rfl (by rfl) (by rfl) (by simp only [hp_alloc, hs_alloc, hs_drew, Nat.add_assoc, Nat.reduceAdd]; repeat (first | rw [if_pos trivial] | rw [if_pos rfl] | rw [if_neg (by omega)])) ?_
                refine hK.out _ _ (rng_set (by assumption) _ _ (by omega)) (fun hHeld => ?_)
                clear hK K
                simp only [Act.put]
                refine wpAnyH_done (by kernel_rfl) ?_ _
                refine NoPanic.normal ?_
                go_wp2_with fail
                go_meet
                exact ⟨_, rfl, LEAF.out _ (w5.heap.size + 3) (w5.heap.size + 4) (w5.heap.size) (w5.heap.size + 2) (((((((Fr.refl _ w5).drew).alloc _).alloc _).alloc _).alloc _).alloc _) (by simp only [hp_alloc, hs_alloc, hs_drew, Nat.add_assoc, Nat.reduceAdd]; repeat (first | rw [if_pos trivial] | rw [if_pos rfl] | rw [if_neg (by omega)])) (by simp only [hp_alloc, hs_alloc, hs_drew, Nat.add_assoc, Nat.reduceAdd]; repeat (first | rw [if_pos trivial] | rw [if_pos rfl] | rw [if_neg (by omega)])) (by simp only [hp_alloc, hs_alloc, hs_drew, Nat.add_assoc, Nat.reduceAdd]; repeat (first | rw [if_pos trivial] | rw [if_pos rfl] | rw [if_neg (by omega)])) (by simp only [hp_alloc, hs_alloc, hs_drew, Nat.add_assoc, Nat.reduceAdd]; repeat (first | rw [if_pos trivial] | rw [if_pos rfl] | rw [if_neg (by omega)])) (by omega) (by omega) (by omega) (by omega) (by omega) (by omega) (by omega) (by omega) ⟨by omega, by omega⟩⟩
              exact AllReadyH.nil
            exact AllReadyH.nil
          exact AllReadyH.nil
        refine AllReadyH.cons (o := { dst := some 5, op := Op.alloc 89, type := 0, pos := "code.go:34", after := #[], guard := none }) rfl (fun K hK => ?_) ?_
        · refine step_al rfl rfl ?_
          refine hK.out _ _ (rng_alloc (by assumption) _) (fun hHeld => ?_)
          clear hK K
          simp only [Act.put, List.setIfInBounds_toArray, List.set_cons_zero, List.set_cons_succ, hs_alloc, hs_drew, Nat.add_assoc, Nat.reduceAdd]
          refine wpAnyH_ready (rs := [5]) (by kernel_rfl) (by simp) ?_
          refine AllReadyH.cons (o := { dst := some 24, op := Op.makeSlice 124 (Operand.tmp 23) (Operand.tmp 23), type := 124, pos := "code.go:34", after := #[{ on := 4, ground := Ground.data }, { on := 4, ground := Ground.data }], guard := none }) rfl (fun K hK => ?_) ?_
          · refine step_mi rfl rfl (by rfl) (hmi _) ?_
            refine hK.out _ _ (rng_alloc (by assumption) _) (fun hHeld => ?_)
            clear hK K
            simp only [Act.put, List.setIfInBounds_toArray, List.set_cons_zero, List.set_cons_succ, hs_alloc, hs_drew, Nat.add_assoc, Nat.reduceAdd]
            refine wpAnyH_take (i := 7) (oi := { dst := some 26, op := Op.build 213 #[(0, Operand.tmp 21), (1, Operand.tmp 24), (2, Operand.tmp 25)], type := 213, pos := "code.go:34", after := #[{ on := 2, ground := Ground.data }, { on := 5, ground := Ground.data }, { on := 6, ground := Ground.data }], guard := none }) (v := .agg (CC (w5.heap.size) (w5.heap.size + 3))) rfl (by kernel_rfl) (by kernel_rfl) (by kernel_rfl) (fun _ _ _ h => h) (yields_build rfl rfl (by rfl) (by rfl) (by rfl) (hbd' _ _)) (by assumption) ?_
            simp only [Act.put, List.setIfInBounds_toArray, List.set_cons_zero, List.set_cons_succ]
            refine wpAnyH_ready (rs := [8]) (by kernel_rfl) (by simp) ?_
            refine AllReadyH.cons (o := { dst := some 27, op := Op.box 213 (Operand.tmp 26), type := 89, pos := "code.go:34", after := #[{ on := 7, ground := Ground.data }], guard := none }) rfl (fun K hK => ?_) ?_
            · refine step_bx rfl rfl (by rfl) ?_
              refine hK.out _ _ (rng_alloc (by assumption) _) (fun hHeld => ?_)
              clear hK K
              simp only [Act.put, List.setIfInBounds_toArray, List.set_cons_zero, List.set_cons_succ, hs_alloc, hs_drew, Nat.add_assoc, Nat.reduceAdd]
              refine wpAnyH_ready (rs := [10]) (by kernel_rfl) (by simp) ?_
              refine AllReadyH.cons (o := { dst := none, op := Op.store 89 (Operand.tmp 5) (Operand.tmp 27), type := 0, pos := "code.go:34", after := #[{ on := 9, ground := Ground.data }, { on := 8, ground := Ground.data }, { on := 4, ground := Ground.chain }, { on := 0, ground := Ground.phase }, { on := 1, ground := Ground.phase }, { on := 2, ground := Ground.phase }, { on := 3, ground := Ground.phase }, { on := 4, ground := Ground.phase }, { on := 5, ground := Ground.phase }, { on := 6, ground := Ground.phase }, { on := 7, ground := Ground.phase }, { on := 8, ground := Ground.phase }, { on := 9, ground := Ground.phase }], guard := none }) rfl (fun K hK => ?_) ?_
              · refine step_st (u := .pointer none) rfl rfl (by rfl) (by rfl) (by simp only [hp_alloc, hs_alloc, hs_drew, Nat.add_assoc, Nat.reduceAdd]; repeat (first | rw [if_pos trivial] | rw [if_pos rfl] | rw [if_neg (by omega)])) ?_
                refine hK.out _ _ (rng_set (by assumption) _ _ (by omega)) (fun hHeld => ?_)
                clear hK K
                simp only [Act.put]
                refine wpAnyH_done (by kernel_rfl) ?_ _
                refine NoPanic.normal ?_
                go_wp2_with fail
                go_meet
                exact ⟨_, rfl, LEAF.out _ (w5.heap.size + 2) (w5.heap.size + 4) (w5.heap.size) (w5.heap.size + 3) (((((((Fr.refl _ w5).drew).alloc _).alloc _).alloc _).alloc _).alloc _) (by simp only [hp_alloc, hs_alloc, hs_drew, Nat.add_assoc, Nat.reduceAdd]; repeat (first | rw [if_pos trivial] | rw [if_pos rfl] | rw [if_neg (by omega)])) (by simp only [hp_alloc, hs_alloc, hs_drew, Nat.add_assoc, Nat.reduceAdd]; repeat (first | rw [if_pos trivial] | rw [if_pos rfl] | rw [if_neg (by omega)])) (by simp only [hp_alloc, hs_alloc, hs_drew, Nat.add_assoc, Nat.reduceAdd]; repeat (first | rw [if_pos trivial] | rw [if_pos rfl] | rw [if_neg (by omega)])) (by simp only [hp_alloc, hs_alloc, hs_drew, Nat.add_assoc, Nat.reduceAdd]; repeat (first | rw [if_pos trivial] | rw [if_pos rfl] | rw [if_neg (by omega)])) (by omega) (by omega) (by omega) (by omega) (by omega) (by omega) (by omega) (by omega) ⟨by omega, by omega⟩⟩
              exact AllReadyH.nil
            exact AllReadyH.nil
          exact AllReadyH.nil
        exact AllReadyH.nil
      refine AllReadyH.cons (o := { dst := some 5, op := Op.alloc 89, type := 0, pos := "code.go:34", after := #[], guard := none }) rfl (fun K hK => ?_) ?_
      · refine step_al rfl rfl ?_
        refine hK.out _ _ (rng_alloc (by assumption) _) (fun hHeld => ?_)
        clear hK K
        simp only [Act.put, List.setIfInBounds_toArray, List.set_cons_zero, List.set_cons_succ, hs_alloc, hs_drew]
        refine wpAnyH_ready (rs := [4]) (by kernel_rfl) (by simp) ?_
        refine AllReadyH.cons (o := { dst := some 23, op := Op.call { callee := Callee.value (Operand.func 157), args := #[Operand.tmp 22], argTypes := #[209] }, type := 3, pos := "code.go:34", after := #[{ on := 3, ground := Ground.data }], guard := none }) rfl (fun K hK => ?_) ?_
        · refine step_call_words rfl _ _ rfl (.agg AL.toArray) (by rfl) _ (HC4.out _) ?_
          rintro e w6 ⟨rfl, rfl⟩
          refine ⟨_, rfl, ?_⟩
          refine hK.out _ _ (rng_alloc (by assumption) _) (fun hHeld => ?_)
          clear hK K
          simp only [Act.put, List.setIfInBounds_toArray, List.set_cons_zero, List.set_cons_succ]
          refine wpAnyH_ready (rs := [5]) (by kernel_rfl) (by simp) ?_
          refine AllReadyH.cons (o := { dst := some 24, op := Op.makeSlice 124 (Operand.tmp 23) (Operand.tmp 23), type := 124, pos := "code.go:34", after := #[{ on := 4, ground := Ground.data }, { on := 4, ground := Ground.data }], guard := none }) rfl (fun K hK => ?_) ?_
          · refine step_mi rfl rfl (by rfl) (hmi _) ?_
            refine hK.out _ _ (rng_alloc (by assumption) _) (fun hHeld => ?_)
            clear hK K
            simp only [Act.put, List.setIfInBounds_toArray, List.set_cons_zero, List.set_cons_succ, hs_alloc, hs_drew, Nat.add_assoc, Nat.reduceAdd]
            refine wpAnyH_take (i := 7) (oi := { dst := some 26, op := Op.build 213 #[(0, Operand.tmp 21), (1, Operand.tmp 24), (2, Operand.tmp 25)], type := 213, pos := "code.go:34", after := #[{ on := 2, ground := Ground.data }, { on := 5, ground := Ground.data }, { on := 6, ground := Ground.data }], guard := none }) (v := .agg (CC (w5.heap.size) (w5.heap.size + 3))) rfl (by kernel_rfl) (by kernel_rfl) (by kernel_rfl) (fun _ _ _ h => h) (yields_build rfl rfl (by rfl) (by rfl) (by rfl) (hbd' _ _)) (by assumption) ?_
            simp only [Act.put, List.setIfInBounds_toArray, List.set_cons_zero, List.set_cons_succ]
            refine wpAnyH_ready (rs := [8]) (by kernel_rfl) (by simp) ?_
            refine AllReadyH.cons (o := { dst := some 27, op := Op.box 213 (Operand.tmp 26), type := 89, pos := "code.go:34", after := #[{ on := 7, ground := Ground.data }], guard := none }) rfl (fun K hK => ?_) ?_
            · refine step_bx rfl rfl (by rfl) ?_
              refine hK.out _ _ (rng_alloc (by assumption) _) (fun hHeld => ?_)
              clear hK K
              simp only [Act.put, List.setIfInBounds_toArray, List.set_cons_zero, List.set_cons_succ, hs_alloc, hs_drew, Nat.add_assoc, Nat.reduceAdd]
              refine wpAnyH_ready (rs := [10]) (by kernel_rfl) (by simp) ?_
              refine AllReadyH.cons (o := { dst := none, op := Op.store 89 (Operand.tmp 5) (Operand.tmp 27), type := 0, pos := "code.go:34", after := #[{ on := 9, ground := Ground.data }, { on := 8, ground := Ground.data }, { on := 4, ground := Ground.chain }, { on := 0, ground := Ground.phase }, { on := 1, ground := Ground.phase }, { on := 2, ground := Ground.phase }, { on := 3, ground := Ground.phase }, { on := 4, ground := Ground.phase }, { on := 5, ground := Ground.phase }, { on := 6, ground := Ground.phase }, { on := 7, ground := Ground.phase }, { on := 8, ground := Ground.phase }, { on := 9, ground := Ground.phase }], guard := none }) rfl (fun K hK => ?_) ?_
              · refine step_st (u := .pointer none) rfl rfl (by rfl) (by rfl) (by simp only [hp_alloc, hs_alloc, hs_drew, Nat.add_assoc, Nat.reduceAdd]; repeat (first | rw [if_pos trivial] | rw [if_pos rfl] | rw [if_neg (by omega)])) ?_
                refine hK.out _ _ (rng_set (by assumption) _ _ (by omega)) (fun hHeld => ?_)
                clear hK K
                simp only [Act.put]
                refine wpAnyH_done (by kernel_rfl) ?_ _
                refine NoPanic.normal ?_
                go_wp2_with fail
                go_meet
                exact ⟨_, rfl, LEAF.out _ (w5.heap.size + 1) (w5.heap.size + 4) (w5.heap.size) (w5.heap.size + 3) (((((((Fr.refl _ w5).drew).alloc _).alloc _).alloc _).alloc _).alloc _) (by simp only [hp_alloc, hs_alloc, hs_drew, Nat.add_assoc, Nat.reduceAdd]; repeat (first | rw [if_pos trivial] | rw [if_pos rfl] | rw [if_neg (by omega)])) (by simp only [hp_alloc, hs_alloc, hs_drew, Nat.add_assoc, Nat.reduceAdd]; repeat (first | rw [if_pos trivial] | rw [if_pos rfl] | rw [if_neg (by omega)])) (by simp only [hp_alloc, hs_alloc, hs_drew, Nat.add_assoc, Nat.reduceAdd]; repeat (first | rw [if_pos trivial] | rw [if_pos rfl] | rw [if_neg (by omega)])) (by simp only [hp_alloc, hs_alloc, hs_drew, Nat.add_assoc, Nat.reduceAdd]; repeat (first | rw [if_pos trivial] | rw [if_pos rfl] | rw [if_neg (by omega)])) (by omega) (by omega) (by omega) (by omega) (by omega) (by omega) (by omega) (by omega) ⟨by omega, by omega⟩⟩
              exact AllReadyH.nil
            exact AllReadyH.nil
          exact AllReadyH.nil
        exact AllReadyH.nil
      exact AllReadyH.nil
    refine AllReadyH.cons (o := { dst := some 23, op := Op.call { callee := Callee.value (Operand.func 157), args := #[Operand.tmp 22], argTypes := #[209] }, type := 3, pos := "code.go:34", after := #[{ on := 3, ground := Ground.data }], guard := none }) rfl (fun K hK => ?_) ?_
    · refine step_call_words rfl _ _ rfl (.agg AL.toArray) (by rfl) _ (HC4.out _) ?_
      rintro e w6 ⟨rfl, rfl⟩
      refine ⟨_, rfl, ?_⟩
      refine hK.out _ _ (rng_alloc (by assumption) _) (fun hHeld => ?_)
      clear hK K
      simp only [Act.put, List.setIfInBounds_toArray, List.set_cons_zero, List.set_cons_succ]
      refine wpAnyH_ready (rs := [2, 5, 9]) (by kernel_rfl) (by simp) ?_
      refine AllReadyH.cons (o := { dst := some 21, op := Op.makeSlice 211 (Operand.tmp 20) (Operand.tmp 20), type := 211, pos := "code.go:34", after := #[{ on := 1, ground := Ground.data }, { on := 1, ground := Ground.data }], guard := none }) rfl (fun K hK => ?_) ?_
      · refine step_mw rfl rfl (by rfl) (hmw _) ?_
        refine hK.out _ _ (rng_alloc (by assumption) _) (fun hHeld => ?_)
        clear hK K
        simp only [Act.put, List.setIfInBounds_toArray, List.set_cons_zero, List.set_cons_succ, hs_alloc, hs_drew]
        refine wpAnyH_ready (rs := [5, 9]) (by kernel_rfl) (by simp) ?_
        refine AllReadyH.cons (o := { dst := some 24, op := Op.makeSlice 124 (Operand.tmp 23) (Operand.tmp 23), type := 124, pos := "code.go:34", after := #[{ on := 4, ground := Ground.data }, { on := 4, ground := Ground.data }], guard := none }) rfl (fun K hK => ?_) ?_
        · refine step_mi rfl rfl (by rfl) (hmi _) ?_
          refine hK.out _ _ (rng_alloc (by assumption) _) (fun hHeld => ?_)
          clear hK K
          simp only [Act.put, List.setIfInBounds_toArray, List.set_cons_zero, List.set_cons_succ, hs_alloc, hs_drew, Nat.add_assoc, Nat.reduceAdd]
          refine wpAnyH_take (i := 7) (oi := { dst := some 26, op := Op.build 213 #[(0, Operand.tmp 21), (1, Operand.tmp 24), (2, Operand.tmp 25)], type := 213, pos := "code.go:34", after := #[{ on := 2, ground := Ground.data }, { on := 5, ground := Ground.data }, { on := 6, ground := Ground.data }], guard := none }) (v := .agg (CC (w5.heap.size + 1) (w5.heap.size + 2))) rfl (by kernel_rfl) (by kernel_rfl) (by kernel_rfl) (fun _ _ _ h => h) (yields_build rfl rfl (by rfl) (by rfl) (by rfl) (hbd' _ _)) (by assumption) ?_
          simp only [Act.put, List.setIfInBounds_toArray, List.set_cons_zero, List.set_cons_succ]
          refine wpAnyH_ready (rs := [8, 9]) (by kernel_rfl) (by simp) ?_
          refine AllReadyH.cons (o := { dst := some 27, op := Op.box 213 (Operand.tmp 26), type := 89, pos := "code.go:34", after := #[{ on := 7, ground := Ground.data }], guard := none }) rfl (fun K hK => ?_) ?_
          · refine step_bx rfl rfl (by rfl) ?_
            refine hK.out _ _ (rng_alloc (by assumption) _) (fun hHeld => ?_)
            clear hK K
            simp only [Act.put, List.setIfInBounds_toArray, List.set_cons_zero, List.set_cons_succ, hs_alloc, hs_drew, Nat.add_assoc, Nat.reduceAdd]
            refine wpAnyH_ready (rs := [9]) (by kernel_rfl) (by simp) ?_
            refine AllReadyH.cons (o := { dst := some 5, op := Op.alloc 89, type := 0, pos := "code.go:34", after := #[], guard := none }) rfl (fun K hK => ?_) ?_
            · refine step_al rfl rfl ?_
              refine hK.out _ _ (rng_alloc (by assumption) _) (fun hHeld => ?_)
              clear hK K
              simp only [Act.put, List.setIfInBounds_toArray, List.set_cons_zero, List.set_cons_succ, hs_alloc, hs_drew, Nat.add_assoc, Nat.reduceAdd]
              refine wpAnyH_ready (rs := [10]) (by kernel_rfl) (by simp) ?_
              refine AllReadyH.cons (o := { dst := none, op := Op.store 89 (Operand.tmp 5) (Operand.tmp 27), type := 0, pos := "code.go:34", after := #[{ on := 9, ground := Ground.data }, { on := 8, ground := Ground.data }, { on := 4, ground := Ground.chain }, { on := 0, ground := Ground.phase }, { on := 1, ground := Ground.phase }, { on := 2, ground := Ground.phase }, { on := 3, ground := Ground.phase }, { on := 4, ground := Ground.phase }, { on := 5, ground := Ground.phase }, { on := 6, ground := Ground.phase }, { on := 7, ground := Ground.phase }, { on := 8, ground := Ground.phase }, { on := 9, ground := Ground.phase }], guard := none }) rfl (fun K hK => ?_) ?_
              · refine step_st (u := .pointer none) rfl rfl (by rfl) (by rfl) (by simp only [hp_alloc, hs_alloc, hs_drew, Nat.add_assoc, Nat.reduceAdd]; repeat (first | rw [if_pos trivial] | rw [if_pos rfl] | rw [if_neg (by omega)])) ?_
                refine hK.out _ _ (rng_set (by assumption) _ _ (by omega)) (fun hHeld => ?_)
                clear hK K
                simp only [Act.put]
                refine wpAnyH_done (by kernel_rfl) ?_ _
                refine NoPanic.normal ?_
                go_wp2_with fail
                go_meet
                exact ⟨_, rfl, LEAF.out _ (w5.heap.size + 4) (w5.heap.size + 3) (w5.heap.size + 1) (w5.heap.size + 2) (((((((Fr.refl _ w5).drew).alloc _).alloc _).alloc _).alloc _).alloc _) (by simp only [hp_alloc, hs_alloc, hs_drew, Nat.add_assoc, Nat.reduceAdd]; repeat (first | rw [if_pos trivial] | rw [if_pos rfl] | rw [if_neg (by omega)])) (by simp only [hp_alloc, hs_alloc, hs_drew, Nat.add_assoc, Nat.reduceAdd]; repeat (first | rw [if_pos trivial] | rw [if_pos rfl] | rw [if_neg (by omega)])) (by simp only [hp_alloc, hs_alloc, hs_drew, Nat.add_assoc, Nat.reduceAdd]; repeat (first | rw [if_pos trivial] | rw [if_pos rfl] | rw [if_neg (by omega)])) (by simp only [hp_alloc, hs_alloc, hs_drew, Nat.add_assoc, Nat.reduceAdd]; repeat (first | rw [if_pos trivial] | rw [if_pos rfl] | rw [if_neg (by omega)])) (by omega) (by omega) (by omega) (by omega) (by omega) (by omega) (by omega) (by omega) ⟨by omega, by omega⟩⟩
              exact AllReadyH.nil
            exact AllReadyH.nil
          refine AllReadyH.cons (o := { dst := some 5, op := Op.alloc 89, type := 0, pos := "code.go:34", after := #[], guard := none }) rfl (fun K hK => ?_) ?_
          · refine step_al rfl rfl ?_
            refine hK.out _ _ (rng_alloc (by assumption) _) (fun hHeld => ?_)
            clear hK K
            simp only [Act.put, List.setIfInBounds_toArray, List.set_cons_zero, List.set_cons_succ, hs_alloc, hs_drew, Nat.add_assoc, Nat.reduceAdd]
            refine wpAnyH_ready (rs := [8]) (by kernel_rfl) (by simp) ?_
            refine AllReadyH.cons (o := { dst := some 27, op := Op.box 213 (Operand.tmp 26), type := 89, pos := "code.go:34", after := #[{ on := 7, ground := Ground.data }], guard := none }) rfl (fun K hK => ?_) ?_
            · refine step_bx rfl rfl (by rfl) ?_
              refine hK.out _ _ (rng_alloc (by assumption) _) (fun hHeld => ?_)
              clear hK K
              simp only [Act.put, List.setIfInBounds_toArray, List.set_cons_zero, List.set_cons_succ, hs_alloc, hs_drew, Nat.add_assoc, Nat.reduceAdd]
              refine wpAnyH_ready (rs := [10]) (by kernel_rfl) (by simp) ?_
              refine AllReadyH.cons (o := { dst := none, op := Op.store 89 (Operand.tmp 5) (Operand.tmp 27), type := 0, pos := "code.go:34", after := #[{ on := 9, ground := Ground.data }, { on := 8, ground := Ground.data }, { on := 4, ground := Ground.chain }, { on := 0, ground := Ground.phase }, { on := 1, ground := Ground.phase }, { on := 2, ground := Ground.phase }, { on := 3, ground := Ground.phase }, { on := 4, ground := Ground.phase }, { on := 5, ground := Ground.phase }, { on := 6, ground := Ground.phase }, { on := 7, ground := Ground.phase }, { on := 8, ground := Ground.phase }, { on := 9, ground := Ground.phase }], guard := none }) rfl (fun K hK => ?_) ?_
              · refine step_st (u := .pointer none) rfl rfl (by rfl) (by rfl) (by simp only [hp_alloc, hs_alloc, hs_drew, Nat.add_assoc, Nat.reduceAdd]; repeat (first | rw [if_pos trivial] | rw [if_pos rfl] | rw [if_neg (by omega)])) ?_
                refine hK.out _ _ (rng_set (by assumption) _ _ (by omega)) (fun hHeld => ?_)
                clear hK K
                simp only [Act.put]
                refine wpAnyH_done (by kernel_rfl) ?_ _
                refine NoPanic.normal ?_
                go_wp2_with fail
                go_meet
                exact ⟨_, rfl, LEAF.out _ (w5.heap.size + 3) (w5.heap.size + 4) (w5.heap.size + 1) (w5.heap.size + 2) (((((((Fr.refl _ w5).drew).alloc _).alloc _).alloc _).alloc _).alloc _) (by simp only [hp_alloc, hs_alloc, hs_drew, Nat.add_assoc, Nat.reduceAdd]; repeat (first | rw [if_pos trivial] | rw [if_pos rfl] | rw [if_neg (by omega)])) (by simp only [hp_alloc, hs_alloc, hs_drew, Nat.add_assoc, Nat.reduceAdd]; repeat (first | rw [if_pos trivial] | rw [if_pos rfl] | rw [if_neg (by omega)])) (by simp only [hp_alloc, hs_alloc, hs_drew, Nat.add_assoc, Nat.reduceAdd]; repeat (first | rw [if_pos trivial] | rw [if_pos rfl] | rw [if_neg (by omega)])) (by simp only [hp_alloc, hs_alloc, hs_drew, Nat.add_assoc, Nat.reduceAdd]; repeat (first | rw [if_pos trivial] | rw [if_pos rfl] | rw [if_neg (by omega)])) (by omega) (by omega) (by omega) (by omega) (by omega) (by omega) (by omega) (by omega) ⟨by omega, by omega⟩⟩
              exact AllReadyH.nil
            exact AllReadyH.nil
          exact AllReadyH.nil
        refine AllReadyH.cons (o := { dst := some 5, op := Op.alloc 89, type := 0, pos := "code.go:34", after := #[], guard := none }) rfl (fun K hK => ?_) ?_
        · refine step_al rfl rfl ?_
          refine hK.out _ _ (rng_alloc (by assumption) _) (fun hHeld => ?_)
          clear hK K
          simp only [Act.put, List.setIfInBounds_toArray, List.set_cons_zero, List.set_cons_succ, hs_alloc, hs_drew, Nat.add_assoc, Nat.reduceAdd]
          refine wpAnyH_ready (rs := [5]) (by kernel_rfl) (by simp) ?_
          refine AllReadyH.cons (o := { dst := some 24, op := Op.makeSlice 124 (Operand.tmp 23) (Operand.tmp 23), type := 124, pos := "code.go:34", after := #[{ on := 4, ground := Ground.data }, { on := 4, ground := Ground.data }], guard := none }) rfl (fun K hK => ?_) ?_
          · refine step_mi rfl rfl (by rfl) (hmi _) ?_
            refine hK.out _ _ (rng_alloc (by assumption) _) (fun hHeld => ?_)
            clear hK K
            simp only [Act.put, List.setIfInBounds_toArray, List.set_cons_zero, List.set_cons_succ, hs_alloc, hs_drew, Nat.add_assoc, Nat.reduceAdd]
            refine wpAnyH_take (i := 7) (oi := { dst := some 26, op := Op.build 213 #[(0, Operand.tmp 21), (1, Operand.tmp 24), (2, Operand.tmp 25)], type := 213, pos := "code.go:34", after := #[{ on := 2, ground := Ground.data }, { on := 5, ground := Ground.data }, { on := 6, ground := Ground.data }], guard := none }) (v := .agg (CC (w5.heap.size + 1) (w5.heap.size + 3))) rfl (by kernel_rfl) (by kernel_rfl) (by kernel_rfl) (fun _ _ _ h => h) (yields_build rfl rfl (by rfl) (by rfl) (by rfl) (hbd' _ _)) (by assumption) ?_
            simp only [Act.put, List.setIfInBounds_toArray, List.set_cons_zero, List.set_cons_succ]
            refine wpAnyH_ready (rs := [8]) (by kernel_rfl) (by simp) ?_
            refine AllReadyH.cons (o := { dst := some 27, op := Op.box 213 (Operand.tmp 26), type := 89, pos := "code.go:34", after := #[{ on := 7, ground := Ground.data }], guard := none }) rfl (fun K hK => ?_) ?_
            · refine step_bx rfl rfl (by rfl) ?_
              refine hK.out _ _ (rng_alloc (by assumption) _) (fun hHeld => ?_)
              clear hK K
              simp only [Act.put, List.setIfInBounds_toArray, List.set_cons_zero, List.set_cons_succ, hs_alloc, hs_drew, Nat.add_assoc, Nat.reduceAdd]
              refine wpAnyH_ready (rs := [10]) (by kernel_rfl) (by simp) ?_
              refine AllReadyH.cons (o := { dst := none, op := Op.store 89 (Operand.tmp 5) (Operand.tmp 27), type := 0, pos := "code.go:34", after := #[{ on := 9, ground := Ground.data }, { on := 8, ground := Ground.data }, { on := 4, ground := Ground.chain }, { on := 0, ground := Ground.phase }, { on := 1, ground := Ground.phase }, { on := 2, ground := Ground.phase }, { on := 3, ground := Ground.phase }, { on := 4, ground := Ground.phase }, { on := 5, ground := Ground.phase }, { on := 6, ground := Ground.phase }, { on := 7, ground := Ground.phase }, { on := 8, ground := Ground.phase }, { on := 9, ground := Ground.phase }], guard := none }) rfl (fun K hK => ?_) ?_
              · refine step_st (u := .pointer none) rfl rfl (by rfl) (by rfl) (by simp only [hp_alloc, hs_alloc, hs_drew, Nat.add_assoc, Nat.reduceAdd]; repeat (first | rw [if_pos trivial] | rw [if_pos rfl] | rw [if_neg (by omega)])) ?_
                refine hK.out _ _ (rng_set (by assumption) _ _ (by omega)) (fun hHeld => ?_)
                clear hK K
                simp only [Act.put]
                refine wpAnyH_done (by kernel_rfl) ?_ _
                refine NoPanic.normal ?_
                go_wp2_with fail
                go_meet
                exact ⟨_, rfl, LEAF.out _ (w5.heap.size + 2) (w5.heap.size + 4) (w5.heap.size + 1) (w5.heap.size + 3) (((((((Fr.refl _ w5).drew).alloc _).alloc _).alloc _).alloc _).alloc _) (by simp only [hp_alloc, hs_alloc, hs_drew, Nat.add_assoc, Nat.reduceAdd]; repeat (first | rw [if_pos trivial] | rw [if_pos rfl] | rw [if_neg (by omega)])) (by simp only [hp_alloc, hs_alloc, hs_drew, Nat.add_assoc, Nat.reduceAdd]; repeat (first | rw [if_pos trivial] | rw [if_pos rfl] | rw [if_neg (by omega)])) (by simp only [hp_alloc, hs_alloc, hs_drew, Nat.add_assoc, Nat.reduceAdd]; repeat (first | rw [if_pos trivial] | rw [if_pos rfl] | rw [if_neg (by omega)])) (by simp only [hp_alloc, hs_alloc, hs_drew, Nat.add_assoc, Nat.reduceAdd]; repeat (first | rw [if_pos trivial] | rw [if_pos rfl] | rw [if_neg (by omega)])) (by omega) (by omega) (by omega) (by omega) (by omega) (by omega) (by omega) (by omega) ⟨by omega, by omega⟩⟩
              exact AllReadyH.nil
            exact AllReadyH.nil
          exact AllReadyH.nil
        exact AllReadyH.nil
      refine AllReadyH.cons (o := { dst := some 24, op := Op.makeSlice 124 (Operand.tmp 23) (Operand.tmp 23), type := 124, pos := "code.go:34", after := #[{ on := 4, ground := Ground.data }, { on := 4, ground := Ground.data }], guard := none }) rfl (fun K hK => ?_) ?_
      · refine step_mi rfl rfl (by rfl) (hmi _) ?_
        refine hK.out _ _ (rng_alloc (by assumption) _) (fun hHeld => ?_)
        clear hK K
        simp only [Act.put, List.setIfInBounds_toArray, List.set_cons_zero, List.set_cons_succ, hs_alloc, hs_drew]
        refine wpAnyH_ready (rs := [2, 9]) (by kernel_rfl) (by simp) ?_
        refine AllReadyH.cons (o := { dst := some 21, op := Op.makeSlice 211 (Operand.tmp 20) (Operand.tmp 20), type := 211, pos := "code.go:34", after := #[{ on := 1, ground := Ground.data }, { on := 1, ground := Ground.data }], guard := none }) rfl (fun K hK => ?_) ?_
        · refine step_mw rfl rfl (by rfl) (hmw _) ?_
          refine hK.out _ _ (rng_alloc (by assumption) _) (fun hHeld => ?_)
          clear hK K
          simp only [Act.put, List.setIfInBounds_toArray, List.set_cons_zero, List.set_cons_succ, hs_alloc, hs_drew, Nat.add_assoc, Nat.reduceAdd]
          refine wpAnyH_take (i := 7) (oi := { dst := some 26, op := Op.build 213 #[(0, Operand.tmp 21), (1, Operand.tmp 24), (2, Operand.tmp 25)], type := 213, pos := "code.go:34", after := #[{ on := 2, ground := Ground.data }, { on := 5, ground := Ground.data }, { on := 6, ground := Ground.data }], guard := none }) (v := .agg (CC (w5.heap.size + 2) (w5.heap.size + 1))) rfl (by kernel_rfl) (by kernel_rfl) (by kernel_rfl) (fun _ _ _ h => h) (yields_build rfl rfl (by rfl) (by rfl) (by rfl) (hbd' _ _)) (by assumption) ?_
          simp only [Act.put, List.setIfInBounds_toArray, List.set_cons_zero, List.set_cons_succ]
          refine wpAnyH_ready (rs := [8, 9]) (by kernel_rfl) (by simp) ?_
          refine AllReadyH.cons (o := { dst := some 27, op := Op.box 213 (Operand.tmp 26), type := 89, pos := "code.go:34", after := #[{ on := 7, ground := Ground.data }], guard := none }) rfl (fun K hK => ?_) ?_
          · refine step_bx rfl rfl (by rfl) ?_
            refine hK.out _ _ (rng_alloc (by assumption) _) (fun hHeld => ?_)
            clear hK K
            simp only [Act.put, List.setIfInBounds_toArray, List.set_cons_zero, List.set_cons_succ, hs_alloc, hs_drew, Nat.add_assoc, Nat.reduceAdd]
            refine wpAnyH_ready (rs := [9]) (by kernel_rfl) (by simp) ?_
            refine AllReadyH.cons (o := { dst := some 5, op := Op.alloc 89, type := 0, pos := "code.go:34", after := #[], guard := none }) rfl (fun K hK => ?_) ?_
            · refine step_al rfl rfl ?_
              refine hK.out _ _ (rng_alloc (by assumption) _) (fun hHeld => ?_)
              clear hK K
              simp only [Act.put, List.setIfInBounds_toArray, List.set_cons_zero, List.set_cons_succ, hs_alloc, hs_drew, Nat.add_assoc, Nat.reduceAdd]
              refine wpAnyH_ready (rs := [10]) (by kernel_rfl) (by simp) ?_
              refine AllReadyH.cons (o := { dst := none, op := Op.store 89 (Operand.tmp 5) (Operand.tmp 27), type := 0, pos := "code.go:34", after := #[{ on := 9, ground := Ground.data }, { on := 8, ground := Ground.data }, { on := 4, ground := Ground.chain }, { on := 0, ground := Ground.phase }, { on := 1, ground := Ground.phase }, { on := 2, ground := Ground.phase }, { on := 3, ground := Ground.phase }, { on := 4, ground := Ground.phase }, { on := 5, ground := Ground.phase }, { on := 6, ground := Ground.phase }, { on := 7, ground := Ground.phase }, { on := 8, ground := Ground.phase }, { on := 9, ground := Ground.phase }], guard := none }) rfl (fun K hK => ?_) ?_
              · refine step_st (u := .pointer none) rfl rfl (by rfl) (by rfl) (by simp only [hp_alloc, hs_alloc, hs_drew, Nat.add_assoc, Nat.reduceAdd]; repeat (first | rw [if_pos trivial] | rw [if_pos rfl] | rw [if_neg (by omega)])) ?_
                refine hK.out _ _ (rng_set (by assumption) _ _ (by omega)) (fun hHeld => ?_)
                clear hK K
                simp only [Act.put]
                refine wpAnyH_done (by kernel_rfl) ?_ _
                refine NoPanic.normal ?_
                go_wp2_with fail
                go_meet
                exact ⟨_, rfl, LEAF.out _ (w5.heap.size + 4) (w5.heap.size + 3) (w5.heap.size + 2) (w5.heap.size + 1) (((((((Fr.refl _ w5).drew).alloc _).alloc _).alloc _).alloc _).alloc _) (by simp only [hp_alloc, hs_alloc, hs_drew, Nat.add_assoc, Nat.reduceAdd]; repeat (first | rw [if_pos trivial] | rw [if_pos rfl] | rw [if_neg (by omega)])) (by simp only [hp_alloc, hs_alloc, hs_drew, Nat.add_assoc, Nat.reduceAdd]; repeat (first | rw [if_pos trivial] | rw [if_pos rfl] | rw [if_neg (by omega)])) (by simp only [hp_alloc, hs_alloc, hs_drew, Nat.add_assoc, Nat.reduceAdd]; repeat (first | rw [if_pos trivial] | rw [if_pos rfl] | rw [if_neg (by omega)])) (by simp only [hp_alloc, hs_alloc, hs_drew, Nat.add_assoc, Nat.reduceAdd]; repeat (first | rw [if_pos trivial] | rw [if_pos rfl] | rw [if_neg (by omega)])) (by omega) (by omega) (by omega) (by omega) (by omega) (by omega) (by omega) (by omega) ⟨by omega, by omega⟩⟩
              exact AllReadyH.nil
            exact AllReadyH.nil
          refine AllReadyH.cons (o := { dst := some 5, op := Op.alloc 89, type := 0, pos := "code.go:34", after := #[], guard := none }) rfl (fun K hK => ?_) ?_
          · refine step_al rfl rfl ?_
            refine hK.out _ _ (rng_alloc (by assumption) _) (fun hHeld => ?_)
            clear hK K
            simp only [Act.put, List.setIfInBounds_toArray, List.set_cons_zero, List.set_cons_succ, hs_alloc, hs_drew, Nat.add_assoc, Nat.reduceAdd]
            refine wpAnyH_ready (rs := [8]) (by kernel_rfl) (by simp) ?_
            refine AllReadyH.cons (o := { dst := some 27, op := Op.box 213 (Operand.tmp 26), type := 89, pos := "code.go:34", after := #[{ on := 7, ground := Ground.data }], guard := none }) rfl (fun K hK => ?_) ?_
            · refine step_bx rfl rfl (by rfl) ?_
              refine hK.out _ _ (rng_alloc (by assumption) _) (fun hHeld => ?_)
              clear hK K
              simp only [Act.put, List.setIfInBounds_toArray, List.set_cons_zero, List.set_cons_succ, hs_alloc, hs_drew, Nat.add_assoc, Nat.reduceAdd]
              refine wpAnyH_ready (rs := [10]) (by kernel_rfl) (by simp) ?_
              refine AllReadyH.cons (o := { dst := none, op := Op.store 89 (Operand.tmp 5) (Operand.tmp 27), type := 0, pos := "code.go:34", after := #[{ on := 9, ground := Ground.data }, { on := 8, ground := Ground.data }, { on := 4, ground := Ground.chain }, { on := 0, ground := Ground.phase }, { on := 1, ground := Ground.phase }, { on := 2, ground := Ground.phase }, { on := 3, ground := Ground.phase }, { on := 4, ground := Ground.phase }, { on := 5, ground := Ground.phase }, { on := 6, ground := Ground.phase }, { on := 7, ground := Ground.phase }, { on := 8, ground := Ground.phase }, { on := 9, ground := Ground.phase }], guard := none }) rfl (fun K hK => ?_) ?_
              · refine step_st (u := .pointer none) rfl rfl (by rfl) (by rfl) (by simp only [hp_alloc, hs_alloc, hs_drew, Nat.add_assoc, Nat.reduceAdd]; repeat (first | rw [if_pos trivial] | rw [if_pos rfl] | rw [if_neg (by omega)])) ?_
                refine hK.out _ _ (rng_set (by assumption) _ _ (by omega)) (fun hHeld => ?_)
                clear hK K
                simp only [Act.put]
                refine wpAnyH_done (by kernel_rfl) ?_ _
                refine NoPanic.normal ?_
                go_wp2_with fail
                go_meet
                exact ⟨_, rfl, LEAF.out _ (w5.heap.size + 3) (w5.heap.size + 4) (w5.heap.size + 2) (w5.heap.size + 1) (((((((Fr.refl _ w5).drew).alloc _).alloc _).alloc _).alloc _).alloc _) (by simp only [hp_alloc, hs_alloc, hs_drew, Nat.add_assoc, Nat.reduceAdd]; repeat (first | rw [if_pos trivial] | rw [if_pos rfl] | rw [if_neg (by omega)])) (by simp only [hp_alloc, hs_alloc, hs_drew, Nat.add_assoc, Nat.reduceAdd]; repeat (first | rw [if_pos trivial] | rw [if_pos rfl] | rw [if_neg (by omega)])) (by simp only [hp_alloc, hs_alloc, hs_drew, Nat.add_assoc, Nat.reduceAdd]; repeat (first | rw [if_pos trivial] | rw [if_pos rfl] | rw [if_neg (by omega)])) (by simp only [hp_alloc, hs_alloc, hs_drew, Nat.add_assoc, Nat.reduceAdd]; repeat (first | rw [if_pos trivial] | rw [if_pos rfl] | rw [if_neg (by omega)])) (by omega) (by omega) (by omega) (by omega) (by omega) (by omega) (by omega) (by omega) ⟨by omega, by omega⟩⟩
              exact AllReadyH.nil
            exact AllReadyH.nil
          exact AllReadyH.nil
        refine AllReadyH.cons (o := { dst := some 5, op := Op.alloc 89, type := 0, pos := "code.go:34", after := #[], guard := none }) rfl (fun K hK => ?_) ?_
        · refine step_al rfl rfl ?_
          refine hK.out _ _ (rng_alloc (by assumption) _) (fun hHeld => ?_)
          clear hK K
          simp only [Act.put, List.setIfInBounds_toArray, List.set_cons_zero, List.set_cons_succ, hs_alloc, hs_drew, Nat.add_assoc, Nat.reduceAdd]
          refine wpAnyH_ready (rs := [2]) (by kernel_rfl) (by simp) ?_
          refine AllReadyH.cons (o := { dst := some 21, op := Op.makeSlice 211 (Operand.tmp 20) (Operand.tmp 20), type := 211, pos := "code.go:34", after := #[{ on := 1, ground := Ground.data }, { on := 1, ground := Ground.data }], guard := none }) rfl (fun K hK => ?_) ?_
          · refine step_mw rfl rfl (by rfl) (hmw _) ?_
            refine hK.out _ _ (rng_alloc (by assumption) _) (fun hHeld => ?_)
            clear hK K
            simp only [Act.put, List.setIfInBounds_toArray, List.set_cons_zero, List.set_cons_succ, hs_alloc, hs_drew, Nat.add_assoc, Nat.reduceAdd]
            refine wpAnyH_take (i := 7) (oi := { dst := some 26, op := Op.build 213 #[(0, Operand.tmp 21), (1, Operand.tmp 24), (2, Operand.tmp 25)], type := 213, pos := "code.go:34", after := #[{ on := 2, ground := Ground.data }, { on := 5, ground := Ground.data }, { on := 6, ground := Ground.data }], guard := none }) (v := .agg (CC (w5.heap.size + 3) (w5.heap.size + 1))) rfl (by kernel_rfl) (by kernel_rfl) (by kernel_rfl) (fun _ _ _ h => h) (yields_build rfl rfl (by rfl) (by rfl) (by rfl) (hbd' _ _)) (by assumption) ?_
            simp only [Act.put, List.setIfInBounds_toArray, List.set_cons_zero, List.set_cons_succ]
            refine wpAnyH_ready (rs := [8]) (by kernel_rfl) (by simp) ?_
            refine AllReadyH.cons (o := { dst := some 27, op := Op.box 213 (Operand.tmp 26), type := 89, pos := "code.go:34", after := #[{ on := 7, ground := Ground.data }], guard := none }) rfl (fun K hK => ?_) ?_
            · refine step_bx rfl rfl (by rfl) ?_
              refine hK.out _ _ (rng_alloc (by assumption) _) (fun hHeld => ?_)
              clear hK K
              simp only [Act.put, List.setIfInBounds_toArray, List.set_cons_zero, List.set_cons_succ, hs_alloc, hs_drew, Nat.add_assoc, Nat.reduceAdd]
              refine wpAnyH_ready (rs := [10]) (by kernel_rfl) (by simp) ?_
              refine AllReadyH.cons (o := { dst := none, op := Op.store 89 (Operand.tmp 5) (Operand.tmp 27), type := 0, pos := "code.go:34", after := #[{ on := 9, ground := Ground.data }, { on := 8, ground := Ground.data }, { on := 4, ground := Ground.chain }, { on := 0, ground := Ground.phase }, { on := 1, ground := Ground.phase }, { on := 2, ground := Ground.phase }, { on := 3, ground := Ground.phase }, { on := 4, ground := Ground.phase }, { on := 5, ground := Ground.phase }, { on := 6, ground := Ground.phase }, { on := 7, ground := Ground.phase }, { on := 8, ground := Ground.phase }, { on := 9, ground := Ground.phase }], guard := none }) rfl (fun K hK => ?_) ?_
              · refine step_st (u := .pointer none) rfl rfl (by rfl) (by rfl) (by simp only [hp_alloc, hs_alloc, hs_drew, Nat.add_assoc, Nat.reduceAdd]; repeat (first | rw [if_pos trivial] | rw [if_pos rfl] | rw [if_neg (by omega)])) ?_
                refine hK.out _ _ (rng_set (by assumption) _ _ (by omega)) (fun hHeld => ?_)
                clear hK K
                simp only [Act.put]
                refine wpAnyH_done (by kernel_rfl) ?_ _
                refine NoPanic.normal ?_
                go_wp2_with fail
                go_meet
                exact ⟨_, rfl, LEAF.out _ (w5.heap.size + 2) (w5.heap.size + 4) (w5.heap.size + 3) (w5.heap.size + 1) (((((((Fr.refl _ w5).drew).alloc _).alloc _).alloc _).alloc _).alloc _) (by simp only [hp_alloc, hs_alloc, hs_drew, Nat.add_assoc, Nat.reduceAdd]; repeat (first | rw [if_pos trivial] | rw [if_pos rfl] | rw [if_neg (by omega)])) (by simp only [hp_alloc, hs_alloc, hs_drew, Nat.add_assoc, Nat.reduceAdd]; repeat (first | rw [if_pos trivial] | rw [if_pos rfl] | rw [if_neg (by omega)])) (by simp only [hp_alloc, hs_alloc, hs_drew, Nat.add_assoc, Nat.reduceAdd]; repeat (first | rw [if_pos trivial] | rw [if_pos rfl] | rw [if_neg (by omega)])) (by simp only [hp_alloc, hs_alloc, hs_drew, Nat.add_assoc, Nat.reduceAdd]; repeat (first | rw [if_pos trivial] | rw [if_pos rfl] | rw [if_neg (by omega)])) (by omega) (by omega) (by omega) (by omega) (by omega) (by omega) (by omega) (by omega) ⟨by omega, by omega⟩⟩
              exact AllReadyH.nil
            exact AllReadyH.nil
          exact AllReadyH.nil
        exact AllReadyH.nil
      refine AllReadyH.cons (o := { dst := some 5, op := Op.alloc 89, type := 0, pos := "code.go:34", after := #[], guard := none }) rfl (fun K hK => ?_) ?_
      · refine step_al rfl rfl ?_
        refine hK.out _ _ (rng_alloc (by assumption) _) (fun hHeld => ?_)
        clear hK K
        simp only [Act.put, List.setIfInBounds_toArray, List.set_cons_zero, List.set_cons_succ, hs_alloc, hs_drew]
        refine wpAnyH_ready (rs := [2, 5]) (by kernel_rfl) (by simp) ?_
        refine AllReadyH.cons (o := { dst := some 21, op := Op.makeSlice 211 (Operand.tmp 20) (Operand.tmp 20), type := 211, pos := "code.go:34", after := #[{ on := 1, ground := Ground.data }, { on := 1, ground := Ground.data }], guard := none }) rfl (fun K hK => ?_) ?_
        · refine step_mw rfl rfl (by rfl) (hmw _) ?_
          refine hK.out _ _ (rng_alloc (by assumption) _) (fun hHeld => ?_)
          clear hK K
          simp only [Act.put, List.setIfInBounds_toArray, List.set_cons_zero, List.set_cons_succ, hs_alloc, hs_drew, Nat.add_assoc, Nat.reduceAdd]
          refine wpAnyH_ready (rs := [5]) (by kernel_rfl) (by simp) ?_
          refine AllReadyH.cons (o := { dst := some 24, op := Op.makeSlice 124 (Operand.tmp 23) (Operand.tmp 23), type := 124, pos := "code.go:34", after := #[{ on := 4, ground := Ground.data }, { on := 4, ground := Ground.data }], guard := none }) rfl (fun K hK => ?_) ?_
          · refine step_mi rfl rfl (by rfl) (hmi _) ?_
            refine hK.out _ _ (rng_alloc (by assumption) _) (fun hHeld => ?_)
            clear hK K
            simp only [Act.put, List.setIfInBounds_toArray, List.set_cons_zero, List.set_cons_succ, hs_alloc, hs_drew, Nat.add_assoc, Nat.reduceAdd]
            refine wpAnyH_take (i := 7) (oi := { dst := some 26, op := Op.build 213 #[(0, Operand.tmp 21), (1, Operand.tmp 24), (2, Operand.tmp 25)], type := 213, pos := "code.go:34", after := #[{ on := 2, ground := Ground.data }, { on := 5, ground := Ground.data }, { on := 6, ground := Ground.data }], guard := none }) (v := .agg (CC (w5.heap.size + 2) (w5.heap.size + 3))) rfl (by kernel_rfl) (by kernel_rfl) (by kernel_rfl) (fun _ _ _ h => h) (yields_build rfl rfl (by rfl) (by rfl) (by rfl) (hbd' _ _)) (by assumption) ?_
            simp only [Act.put, List.setIfInBounds_toArray, List.set_cons_zero, List.set_cons_succ]
            refine wpAnyH_ready (rs := [8]) (by kernel_rfl) (by simp) ?_
            refine AllReadyH.cons (o := { dst := some 27, op := Op.box 213 (Operand.tmp 26), type := 89, pos := "code.go:34", after := #[{ on := 7, ground := Ground.data }], guard := none }) rfl (fun K hK => ?_) ?_
            · refine step_bx rfl rfl (by rfl) ?_
              refine hK.out _ _ (rng_alloc (by assumption) _) (fun hHeld => ?_)
              clear hK K
              simp only [Act.put, List.setIfInBounds_toArray, List.set_cons_zero, List.set_cons_succ, hs_alloc, hs_drew, Nat.add_assoc, Nat.reduceAdd]
              refine wpAnyH_ready (rs := [10]) (by kernel_rfl) (by simp) ?_
              refine AllReadyH.cons (o := { dst := none, op := Op.store 89 (Operand.tmp 5) (Operand.tmp 27), type := 0, pos := "code.go:34", after := #[{ on := 9, ground := Ground.data }, { on := 8, ground := Ground.data }, { on := 4, ground := Ground.chain }, { on := 0, ground := Ground.phase }, { on := 1, ground := Ground.phase }, { on := 2, ground := Ground.phase }, { on := 3, ground := Ground.phase }, { on := 4, ground := Ground.phase }, { on := 5, ground := Ground.phase }, { on := 6, ground := Ground.phase }, { on := 7, ground := Ground.phase }, { on := 8, ground := Ground.phase }, { on := 9, ground := Ground.phase }], guard := none }) rfl (fun K hK => ?_) ?_
              · refine step_st (u := .pointer none) rfl rfl (by rfl) (by rfl) (by simp only [hp_alloc, hs_alloc, hs_drew, Nat.add_assoc, Nat.reduceAdd]; repeat (first | rw [if_pos trivial] | rw [if_pos rfl] | rw [if_neg (by omega)])) ?_
                refine hK.out _ _ (rng_set (by assumption) _ _ (by omega)) (fun hHeld => ?_)
                clear hK K
                simp only [Act.put]
                refine wpAnyH_done (by kernel_rfl) ?_ _
                refine NoPanic.normal ?_
                go_wp2_with fail
                go_meet
                exact ⟨_, rfl, LEAF.out _ (w5.heap.size + 1) (w5.heap.size + 4) (w5.heap.size + 2) (w5.heap.size + 3) (((((((Fr.refl _ w5).drew).alloc _).alloc _).alloc _).alloc _).alloc _) (by simp only [hp_alloc, hs_alloc, hs_drew, Nat.add_assoc, Nat.reduceAdd]; repeat (first | rw [if_pos trivial] | rw [if_pos rfl] | rw [if_neg (by omega)])) (by simp only [hp_alloc, hs_alloc, hs_drew, Nat.add_assoc, Nat.reduceAdd]; repeat (first | rw [if_pos trivial] | rw [if_pos rfl] | rw [if_neg (by omega)])) (by simp only [hp_alloc, hs_alloc, hs_drew, Nat.add_assoc, Nat.reduceAdd]; repeat (first | rw [if_pos trivial] | rw [if_pos rfl] | rw [if_neg (by omega)])) (by simp only [hp_alloc, hs_alloc, hs_drew, Nat.add_assoc, Nat.reduceAdd]; repeat (first | rw [if_pos trivial] | rw [if_pos rfl] | rw [if_neg (by omega)])) (by omega) (by omega) (by omega) (by omega) (by omega) (by omega) (by omega) (by omega) ⟨by omega, by omega⟩⟩
              exact AllReadyH.nil
            exact AllReadyH.nil
          exact AllReadyH.nil
        refine AllReadyH.cons (o := { dst := some 24, op := Op.makeSlice 124 (Operand.tmp 23) (Operand.tmp 23), type := 124, pos := "code.go:34", after := #[{ on := 4, ground := Ground.data }, { on := 4, ground := Ground.data }], guard := none }) rfl (fun K hK => ?_) ?_
        · refine step_mi rfl rfl (by rfl) (hmi _) ?_
          refine hK.out _ _ (rng_alloc (by assumption) _) (fun hHeld => ?_)
          clear hK K
          simp only [Act.put, List.setIfInBounds_toArray, List.set_cons_zero, List.set_cons_succ, hs_alloc, hs_drew, Nat.add_assoc, Nat.reduceAdd]
          refine wpAnyH_ready (rs := [2]) (by kernel_rfl) (by simp) ?_
          refine AllReadyH.cons (o := { dst := some 21, op := Op.makeSlice 211 (Operand.tmp 20) (Operand.tmp 20), type := 211, pos := "code.go:34", after := #[{ on := 1, ground := Ground.data }, { on := 1, ground := Ground.data }], guard := none }) rfl (fun K hK => ?_) ?_
          · refine step_mw rfl rfl (by rfl) (hmw _) ?_
            refine hK.out _ _ (rng_alloc (by assumption) _) (fun hHeld => ?_)
            clear hK K
            simp only [Act.put, List.setIfInBounds_toArray, List.set_cons_zero, List.set_cons_succ, hs_alloc, hs_drew, Nat.add_assoc, Nat.reduceAdd]
            refine wpAnyH_take (i := 7) (oi := { dst := some 26, op := Op.build 213 #[(0, Operand.tmp 21), (1, Operand.tmp 24), (2, Operand.tmp 25)], type := 213, pos := "code.go:34", after := #[{ on := 2, ground := Ground.data }, { on := 5, ground := Ground.data }, { on := 6, ground := Ground.data }], guard := none }) (v := .agg (CC (w5.heap.size + 3) (w5.heap.size + 2))) rfl (by kernel_rfl) (by kernel_rfl) (by kernel_rfl) (fun _ _ _ h => h) (yields_build rfl rfl (by rfl) (by rfl) (by rfl) (hbd' _ _)) (by assumption) ?_
            simp only [Act.put, List.setIfInBounds_toArray, List.set_cons_zero, List.set_cons_succ]
            refine wpAnyH_ready (rs := [8]) (by kernel_rfl) (by simp) ?_
            refine AllReadyH.cons (o := { dst := some 27, op := Op.box 213 (Operand.tmp 26), type := 89, pos := "code.go:34", after := #[{ on := 7, ground := Ground.data }], guard := none }) rfl (fun K hK => ?_) ?_
            · refine step_bx rfl rfl (by rfl) ?_
              refine hK.out _ _ (rng_alloc (by assumption) _) (fun hHeld => ?_)
              clear hK K
              simp only [Act.put, List.setIfInBounds_toArray, List.set_cons_zero, List.set_cons_succ, hs_alloc, hs_drew, Nat.add_assoc, Nat.reduceAdd]
              refine wpAnyH_ready (rs := [10]) (by kernel_rfl) (by simp) ?_
              refine AllReadyH.cons (o := { dst := none, op := Op.store 89 (Operand.tmp 5) (Operand.tmp 27), type := 0, pos := "code.go:34", after := #[{ on := 9, ground := Ground.data }, { on := 8, ground := Ground.data }, { on := 4, ground := Ground.chain }, { on := 0, ground := Ground.phase }, { on := 1, ground := Ground.phase }, { on := 2, ground := Ground.phase }, { on := 3, ground := Ground.phase }, { on := 4, ground := Ground.phase }, { on := 5, ground := Ground.phase }, { on := 6, ground := Ground.phase }, { on := 7, ground := Ground.phase }, { on := 8, ground := Ground.phase }, { on := 9, ground := Ground.phase }], guard := none }) rfl (fun K hK => ?_) ?_
              · refine step_st (u := .pointer none) rfl rfl (by rfl) (by rfl) (by simp only [hp_alloc, hs_alloc, hs_drew, Nat.add_assoc, Nat.reduceAdd]; repeat (first | rw [if_pos trivial] | rw [if_pos rfl] | rw [if_neg (by omega)])) ?_
                refine hK.out _ _ (rng_set (by assumption) _ _ (by omega)) (fun hHeld => ?_)
                clear hK K
                simp only [Act.put]
                refine wpAnyH_done (by kernel_rfl) ?_ _
                refine NoPanic.normal ?_
                go_wp2_with fail
                go_meet
                exact ⟨_, rfl, LEAF.out _ (w5.heap.size + 1) (w5.heap.size + 4) (w5.heap.size + 3) (w5.heap.size + 2) (((((((Fr.refl _ w5).drew).alloc _).alloc _).alloc _).alloc _).alloc _) (by simp only [hp_alloc, hs_alloc, hs_drew, Nat.add_assoc, Nat.reduceAdd]; repeat (first | rw [if_pos trivial] | rw [if_pos rfl] | rw [if_neg (by omega)])) (by simp only [hp_alloc, hs_alloc, hs_drew, Nat.add_assoc, Nat.reduceAdd]; repeat (first | rw [if_pos trivial] | rw [if_pos rfl] | rw [if_neg (by omega)])) (by simp only [hp_alloc, hs_alloc, hs_drew, Nat.add_assoc, Nat.reduceAdd]; repeat (first | rw [if_pos trivial] | rw [if_pos rfl] | rw [if_neg (by omega)])) (by simp only [hp_alloc, hs_alloc, hs_drew, Nat.add_assoc, Nat.reduceAdd]; repeat (first | rw [if_pos trivial] | rw [if_pos rfl] | rw [if_neg (by omega)])) (by omega) (by omega) (by omega) (by omega) (by omega) (by omega) (by omega) (by omega) ⟨by omega, by omega⟩⟩
              exact AllReadyH.nil
            exact AllReadyH.nil
          exact AllReadyH.nil
        exact AllReadyH.nil
      exact AllReadyH.nil
    refine AllReadyH.cons (o := { dst := some 5, op := Op.alloc 89, type := 0, pos := "code.go:34", after := #[], guard := none }) rfl (fun K hK => ?_) ?_
    · refine step_al rfl rfl ?_
      refine hK.out _ _ (rng_alloc (by assumption) _) (fun hHeld => ?_)
      clear hK K
      simp only [Act.put, List.setIfInBounds_toArray, List.set_cons_zero, List.set_cons_succ, hs_drew]
      refine wpAnyH_ready (rs := [2, 4]) (by kernel_rfl) (by simp) ?_
      refine AllReadyH.cons (o := { dst := some 21, op := Op.makeSlice 211 (Operand.tmp 20) (Operand.tmp 20), type := 211, pos := "code.go:34", after := #[{ on := 1, ground := Ground.data }, { on := 1, ground := Ground.data }], guard := none }) rfl (fun K hK => ?_) ?_
      · refine step_mw rfl rfl (by rfl) (hmw _) ?_
        refine hK.out _ _ (rng_alloc (by assumption) _) (fun hHeld => ?_)
        clear hK K
        simp only [Act.put, List.setIfInBounds_toArray, List.set_cons_zero, List.set_cons_succ, hs_alloc, hs_drew]
        refine wpAnyH_ready (rs := [4]) (by kernel_rfl) (by simp) ?_
        refine AllReadyH.cons (o := { dst := some 23, op := Op.call { callee := Callee.value (Operand.func 157), args := #[Operand.tmp 22], argTypes := #[209] }, type := 3, pos := "code.go:34", after := #[{ on := 3, ground := Ground.data }], guard := none }) rfl (fun K hK => ?_) ?_
        · refine step_call_words rfl _ _ rfl (.agg AL.toArray) (by rfl) _ (HC4.out _) ?_
          rintro e w6 ⟨rfl, rfl⟩
          refine ⟨_, rfl, ?_⟩
          refine hK.out _ _ (rng_alloc (by assumption) _) (fun hHeld => ?_)
          clear hK K
          simp only [Act.put, List.setIfInBounds_toArray, List.set_cons_zero, List.set_cons_succ]
          refine wpAnyH_ready (rs := [5]) (by kernel_rfl) (by simp) ?_
          refine AllReadyH.cons (o := { dst := some 24, op := Op.makeSlice 124 (Operand.tmp 23) (Operand.tmp 23), type := 124, pos := "code.go:34", after := #[{ on := 4, ground := Ground.data }, { on := 4, ground := Ground.data }], guard := none }) rfl (fun K hK => ?_) ?_
          · refine step_mi rfl rfl (by rfl) (hmi _) ?_
            refine hK.out _ _ (rng_alloc (by assumption) _) (fun hHeld => ?_)
            clear hK K
            simp only [Act.put, List.setIfInBounds_toArray, List.set_cons_zero, List.set_cons_succ, hs_alloc, hs_drew, Nat.add_assoc, Nat.reduceAdd]
            refine wpAnyH_take (i := 7) (oi := { dst := some 26, op := Op.build 213 #[(0, Operand.tmp 21), (1, Operand.tmp 24), (2, Operand.tmp 25)], type := 213, pos := "code.go:34", after := #[{ on := 2, ground := Ground.data }, { on := 5, ground := Ground.data }, { on := 6, ground := Ground.data }], guard := none }) (v := .agg (CC (w5.heap.size + 1) (w5.heap.size + 3))) rfl (by kernel_rfl) (by kernel_rfl) (by kernel_rfl) (fun _ _ _ h => h) (yields_build rfl rfl (by rfl) (by rfl) (by rfl) (hbd' _ _)) (by assumption) ?_
            simp only [Act.put, List.setIfInBounds_toArray, List.set_cons_zero, List.set_cons_succ]
            refine wpAnyH_ready (rs := [8]) (by kernel_rfl) (by simp) ?_
            refine AllReadyH.cons (o := { dst := some 27, op := Op.box 213 (Operand.tmp 26), type := 89, pos := "code.go:34", after := #[{ on := 7, ground := Ground.data }], guard := none }) rfl (fun K hK => ?_) ?_
            · refine step_bx rfl rfl (by rfl) ?_
              refine hK.out _ _ (rng_alloc (by assumption) _) (fun hHeld => ?_)
              clear hK K
              simp only [Act.put, List.setIfInBounds_toArray, List.set_cons_zero, List.set_cons_succ, hs_alloc, hs_drew, Nat.add_assoc, Nat.reduceAdd]
              refine wpAnyH_ready (rs := [10]) (by kernel_rfl) (by simp) ?_
              refine AllReadyH.cons (o := { dst := none, op := Op.store 89 (Operand.tmp 5) (Operand.tmp 27), type := 0, pos := "code.go:34", after := #[{ on := 9, ground := Ground.data }, { on := 8, ground := Ground.data }, { on := 4, ground := Ground.chain }, { on := 0, ground := Ground.phase }, { on := 1, ground := Ground.phase }, { on := 2, ground := Ground.phase }, { on := 3, ground := Ground.phase }, { on := 4, ground := Ground.phase }, { on := 5, ground := Ground.phase }, { on := 6, ground := Ground.phase }, { on := 7, ground := Ground.phase }, { on := 8, ground := Ground.phase }, { on := 9, ground := Ground.phase }], guard := none }) rfl (fun K hK => ?_) ?_
              · refine step_st (u := .pointer none) rfl rfl (by rfl) (by rfl) (by simp only [hp_alloc, hs_alloc, hs_drew, Nat.add_assoc, Nat.reduceAdd]; repeat (first | rw [if_pos trivial] | rw [if_pos rfl] | rw [if_neg (by omega)])) ?_
                refine hK.out _ _ (rng_set (by assumption) _ _ (by omega)) (fun hHeld => ?_)
                clear hK K
                simp only [Act.put]
                refine wpAnyH_done (by kernel_rfl) ?_ _
                refine NoPanic.normal ?_
                go_wp2_with fail
                go_meet
                exact ⟨_, rfl, LEAF.out _ (w5.heap.size) (w5.heap.size + 4) (w5.heap.size + 1) (w5.heap.size + 3) (((((((Fr.refl _ w5).drew).alloc _).alloc _).alloc _).alloc _).alloc _) (by simp only [hp_alloc, hs_alloc, hs_drew, Nat.add_assoc, Nat.reduceAdd]; repeat (first | rw [if_pos trivial] | rw [if_pos rfl] | rw [if_neg (by omega)])) (by simp only [hp_alloc, hs_alloc, hs_drew, Nat.add_assoc, Nat.reduceAdd]; repeat (first | rw [if_pos trivial] | rw [if_pos rfl] | rw [if_neg (by omega)])) (by simp only [hp_alloc, hs_alloc, hs_drew, Nat.add_assoc, Nat.reduceAdd]; repeat (first | rw [if_pos trivial] | rw [if_pos rfl] | rw [if_neg (by omega)])) (by simp only [hp_alloc, hs_alloc, hs_drew, Nat.add_assoc, Nat.reduceAdd]; repeat (first | rw [if_pos trivial] | rw [if_pos rfl] | rw [if_neg (by omega)])) (by omega) (by omega) (by omega) (by omega) (by omega) (by omega) (by omega) (by omega) ⟨by omega, by omega⟩⟩
              exact AllReadyH.nil
            exact AllReadyH.nil
          exact AllReadyH.nil
        exact AllReadyH.nil
      refine AllReadyH.cons (o := { dst := some 23, op := Op.call { callee := Callee.value (Operand.func 157), args := #[Operand.tmp 22], argTypes := #[209] }, type := 3, pos := "code.go:34", after := #[{ on := 3, ground := Ground.data }], guard := none }) rfl (fun K hK => ?_) ?_
      · refine step_call_words rfl _ _ rfl (.agg AL.toArray) (by rfl) _ (HC4.out _) ?_
        rintro e w6 ⟨rfl, rfl⟩
        refine ⟨_, rfl, ?_⟩
        refine hK.out _ _ (rng_alloc (by assumption) _) (fun hHeld => ?_)
        clear hK K
        simp only [Act.put, List.setIfInBounds_toArray, List.set_cons_zero, List.set_cons_succ]
        refine wpAnyH_ready (rs := [2, 5]) (by kernel_rfl) (by simp) ?_
        refine AllReadyH.cons (o := { dst := some 21, op := Op.makeSlice 211 (Operand.tmp 20) (Operand.tmp 20), type := 211, pos := "code.go:34", after := #[{ on := 1, ground := Ground.data }, { on := 1, ground := Ground.data }], guard := none }) rfl (fun K hK => ?_) ?_
        · refine step_mw rfl rfl (by rfl) (hmw _) ?_
          refine hK.out _ _ (rng_alloc (by assumption) _) (fun hHeld => ?_)
          clear hK K
          simp only [Act.put, List.setIfInBounds_toArray, List.set_cons_zero, List.set_cons_succ, hs_alloc, hs_drew, Nat.add_assoc, Nat.reduceAdd]
          refine wpAnyH_ready (rs := [5]) (by kernel_rfl) (by simp) ?_
          refine AllReadyH.cons (o := { dst := some 24, op := Op.makeSlice 124 (Operand.tmp 23) (Operand.tmp 23), type := 124, pos := "code.go:34", after := #[{ on := 4, ground := Ground.data }, { on := 4, ground := Ground.data }], guard := none }) rfl (fun K hK => ?_) ?_
          · refine step_mi rfl rfl (by rfl) (hmi _) ?_
            refine hK.out _ _ (rng_alloc (by assumption) _) (fun hHeld => ?_)
            clear hK K
            simp only [Act.put, List.setIfInBounds_toArray, List.set_cons_zero, List.set_cons_succ, hs_alloc, hs_drew, Nat.add_assoc, Nat.reduceAdd]
            refine wpAnyH_take (i := 7) (oi := { dst := some 26, op := Op.build 213 #[(0, Operand.tmp 21), (1, Operand.tmp 24), (2, Operand.tmp 25)], type := 213, pos := "code.go:34", after := #[{ on := 2, ground := Ground.data }, { on := 5, ground := Ground.data }, { on := 6, ground := Ground.data }], guard := none }) (v := .agg (CC (w5.heap.size + 2) (w5.heap.size + 3))) rfl (by kernel_rfl) (by kernel_rfl) (by kernel_rfl) (fun _ _ _ h => h) (yields_build rfl rfl (by rfl) (by rfl) (by rfl) (hbd' _ _)) (by assumption) ?_
            simp only [Act.put, List.setIfInBounds_toArray, List.set_cons_zero, List.set_cons_succ]
            refine wpAnyH_ready (rs := [8]) (by kernel_rfl) (by simp) ?_
            refine AllReadyH.cons (o := { dst := some 27, op := Op.box 213 (Operand.tmp 26), type := 89, pos := "code.go:34", after := #[{ on := 7, ground := Ground.data }], guard := none }) rfl (fun K hK => ?_) ?_
            · refine step_bx rfl rfl (by rfl) ?_
              refine hK.out _ _ (rng_alloc (by assumption) _) (fun hHeld => ?_)
              clear hK K
              simp only [Act.put, List.setIfInBounds_toArray, List.set_cons_zero, List.set_cons_succ, hs_alloc, hs_drew, Nat.add_assoc, Nat.reduceAdd]
              refine wpAnyH_ready (rs := [10]) (by kernel_rfl) (by simp) ?_
              refine AllReadyH.cons (o := { dst := none, op := Op.store 89 (Operand.tmp 5) (Operand.tmp 27), type := 0, pos := "code.go:34", after := #[{ on := 9, ground := Ground.data }, { on := 8, ground := Ground.data }, { on := 4, ground := Ground.chain }, { on := 0, ground := Ground.phase }, { on := 1, ground := Ground.phase }, { on := 2, ground := Ground.phase }, { on := 3, ground := Ground.phase }, { on := 4, ground := Ground.phase }, { on := 5, ground := Ground.phase }, { on := 6, ground := Ground.phase }, { on := 7, ground := Ground.phase }, { on := 8, ground := Ground.phase }, { on := 9, ground := Ground.phase }], guard := none }) rfl (fun K hK => ?_) ?_
              · refine step_st (u := .pointer none) rfl rfl (by rfl) (by rfl) (by simp only [hp_alloc, hs_alloc, hs_drew, Nat.add_assoc, Nat.reduceAdd]; repeat (first | rw [if_pos trivial] | rw [if_pos rfl] | rw [if_neg (by omega)])) ?_
                refine hK.out _ _ (rng_set (by assumption) _ _ (by omega)) (fun hHeld => ?_)
                clear hK K
                simp only [Act.put]
                refine wpAnyH_done (by kernel_rfl) ?_ _
                refine NoPanic.normal ?_
                go_wp2_with fail
                go_meet
                exact ⟨_, rfl, LEAF.out _ (w5.heap.size) (w5.heap.size + 4) (w5.heap.size + 2) (w5.heap.size + 3) (((((((Fr.refl _ w5).drew).alloc _).alloc _).alloc _).alloc _).alloc _) (by simp only [hp_alloc, hs_alloc, hs_drew, Nat.add_assoc, Nat.reduceAdd]; repeat (first | rw [if_pos trivial] | rw [if_pos rfl] | rw [if_neg (by omega)])) (by simp only [hp_alloc, hs_alloc, hs_drew, Nat.add_assoc, Nat.reduceAdd]; repeat (first | rw [if_pos trivial] | rw [if_pos rfl] | rw [if_neg (by omega)])) (by simp only [hp_alloc, hs_alloc, hs_drew, Nat.add_assoc, Nat.reduceAdd]; repeat (first | rw [if_pos trivial] | rw [if_pos rfl] | rw [if_neg (by omega)])) (by simp only [hp_alloc, hs_alloc, hs_drew, Nat.add_assoc, Nat.reduceAdd]; repeat (first | rw [if_pos trivial] | rw [if_pos rfl] | rw [if_neg (by omega)])) (by omega) (by omega) (by omega) (by omega) (by omega) (by omega) (by omega) (by omega) ⟨by omega, by omega⟩⟩
              exact AllReadyH.nil
            exact AllReadyH.nil
          exact AllReadyH.nil
        refine AllReadyH.cons (o := { dst := some 24, op := Op.makeSlice 124 (Operand.tmp 23) (Operand.tmp 23), type := 124, pos := "code.go:34", after := #[{ on := 4, ground := Ground.data }, { on := 4, ground := Ground.data }], guard := none }) rfl (fun K hK => ?_) ?_
        · refine step_mi rfl rfl (by rfl) (hmi _) ?_
          refine hK.out _ _ (rng_alloc (by assumption) _) (fun hHeld => ?_)
          clear hK K
          simp only [Act.put, List.setIfInBounds_toArray, List.set_cons_zero, List.set_cons_succ, hs_alloc, hs_drew, Nat.add_assoc, Nat.reduceAdd]
          refine wpAnyH_ready (rs := [2]) (by kernel_rfl) (by simp) ?_
          refine AllReadyH.cons (o := { dst := some 21, op := Op.makeSlice 211 (Operand.tmp 20) (Operand.tmp 20), type := 211, pos := "code.go:34", after := #[{ on := 1, ground := Ground.data }, { on := 1, ground := Ground.data }], guard := none }) rfl (fun K hK => ?_) ?_
          · refine step_mw rfl rfl (by rfl) (hmw _) ?_
            refine hK.out _ _ (rng_alloc (by assumption) _) (fun hHeld => ?_)
            clear hK K
            simp only [Act.put, List.setIfInBounds_toArray, List.set_cons_zero, List.set_cons_succ, hs_alloc, hs_drew, Nat.add_assoc, Nat.reduceAdd]
            refine wpAnyH_take (i := 7) (oi := { dst := some 26, op := Op.build 213 #[(0, Operand.tmp 21), (1, Operand.tmp 24), (2, Operand.tmp 25)], type := 213, pos := "code.go:34", after := #[{ on := 2, ground := Ground.data }, { on := 5, ground := Ground.data }, { on := 6, ground := Ground.data }], guard := none }) (v := .agg (CC (w5.heap.size + 3) (w5.heap.size + 2))) rfl (by kernel_rfl) (by kernel_rfl) (by kernel_rfl) (fun _ _ _ h => h) (yields_build rfl rfl (by rfl) (by rfl) (by rfl) (hbd' _ _)) (by assumption) ?_
            simp only [Act.put, List.setIfInBounds_toArray, List.set_cons_zero, List.set_cons_succ]
            refine wpAnyH_ready (rs := [8]) (by kernel_rfl) (by simp) ?_
            refine AllReadyH.cons (o := { dst := some 27, op := Op.box 213 (Operand.tmp 26), type := 89, pos := "code.go:34", after := #[{ on := 7, ground := Ground.data }], guard := none }) rfl (fun K hK => ?_) ?_
            · refine step_bx rfl rfl (by rfl) ?_
              refine hK.out _ _ (rng_alloc (by assumption) _) (fun hHeld => ?_)
              clear hK K
              simp only [Act.put, List.setIfInBounds_toArray, List.set_cons_zero, List.set_cons_succ, hs_alloc, hs_drew, Nat.add_assoc, Nat.reduceAdd]
              refine wpAnyH_ready (rs := [10]) (by kernel_rfl) (by simp) ?_
              refine AllReadyH.cons (o := { dst := none, op := Op.store 89 (Operand.tmp 5) (Operand.tmp 27), type := 0, pos := "code.go:34", after := #[{ on := 9, ground := Ground.data }, { on := 8, ground := Ground.data }, { on := 4, ground := Ground.chain }, { on := 0, ground := Ground.phase }, { on := 1, ground := Ground.phase }, { on := 2, ground := Ground.phase }, { on := 3, ground := Ground.phase }, { on := 4, ground := Ground.phase }, { on := 5, ground := Ground.phase }, { on := 6, ground := Ground.phase }, { on := 7, ground := Ground.phase }, { on := 8, ground := Ground.phase }, { on := 9, ground := Ground.phase }], guard := none }) rfl (fun K hK => ?_) ?_
              · refine step_st (u := .pointer none) rfl rfl (by rfl) (by rfl) (by simp only [hp_alloc, hs_alloc, hs_drew, Nat.add_assoc, Nat.reduceAdd]; repeat (first | rw [if_pos trivial] | rw [if_pos rfl] | rw [if_neg (by omega)])) ?_
                refine hK.out _ _ (rng_set (by assumption) _ _ (by omega)) (fun hHeld => ?_)
                clear hK K
                simp only [Act.put]
                refine wpAnyH_done (by kernel_rfl) ?_ _
                refine NoPanic.normal ?_
                go_wp2_with fail
                go_meet
                exact ⟨_, rfl, LEAF.out _ (w5.heap.size) (w5.heap.size + 4) (w5.heap.size + 3) (w5.heap.size + 2) (((((((Fr.refl _ w5).drew).alloc _).alloc _).alloc _).alloc _).alloc _) (by simp only [hp_alloc, hs_alloc, hs_drew, Nat.add_assoc, Nat.reduceAdd]; repeat (first | rw [if_pos trivial] | rw [if_pos rfl] | rw [if_neg (by omega)])) (by simp only [hp_alloc, hs_alloc, hs_drew, Nat.add_assoc, Nat.reduceAdd]; repeat (first | rw [if_pos trivial] | rw [if_pos rfl] | rw [if_neg (by omega)])) (by simp only [hp_alloc, hs_alloc, hs_drew, Nat.add_assoc, Nat.reduceAdd]; repeat (first | rw [if_pos trivial] | rw [if_pos rfl] | rw [if_neg (by omega)])) (by simp only [hp_alloc, hs_alloc, hs_drew, Nat.add_assoc, Nat.reduceAdd]; repeat (first | rw [if_pos trivial] | rw [if_pos rfl] | rw [if_neg (by omega)])) (by omega) (by omega) (by omega) (by omega) (by omega) (by omega) (by omega) (by omega) ⟨by omega, by omega⟩⟩
              exact AllReadyH.nil
            exact AllReadyH.nil
          exact AllReadyH.nil
        exact AllReadyH.nil
      exact AllReadyH.nil
    exact AllReadyH.nil
    -- ORDERS END
  case rest =>
    obtain ⟨pb, rfl, HL⟩ := hcut
    obtain ⟨cb, gw, gs, k1, k2, k3, k4, k5, k6, k7, k8, k9, k10⟩ := HL.out
    have HE : Hid (Calls Tryz.prog 158 #[.slice a L c, .agg A, .func (.func 159) #[] #[.pointer (some ⟨pb, 0, none⟩)]] wc fun e w' => (∃ r, e = .returned r) ∧ w'.cell? ⟨pb, 0, none⟩ = some (.pointer (some ⟨cb, 0, none⟩)) ∧ Hid (P (.returned (.tuple #[.pointer (some ⟨cb, 0, none⟩), .int .i64 0])) w')) := by
      have hk := HK.out
      rw [hA'.out]
      refine (eachWord_any wc _ ls hk cb gw gs pb _ _ ((HSL.out.nw k4).mono (fun g hg => ?_)) k2 (fun i hi => by rw [List.getElem?_replicate, if_pos hi]) k1 k9 k10).mono ?_
      · show w.heap.size ≤ g
        have := k4.size
        rcases hg with e | e | e <;> omega
      · rintro e w' ⟨he, ⟨ws', ss', hC⟩, hp, hf⟩
        refine ⟨he, (row_cell hp 0 _ rfl).1, ?_⟩
        show P _ _
        rw [HP.out]
        exact ⟨cb, gw, gs, ws', ss', rfl, hC, Fr.then k4 hf (fun i hi => .inr (by omega)), k5, k6, k7⟩
    have hrc : wc.heap[rr]? = some (.cells A 209) := by rw [hA'.out]; exact k3
    clear HL k1 k2 k3 k4 HLD hbd' hmw hmi HC4 HN5 hl5 hA' hCW' hCS' hCC' HSL HK HP
    go_wp2_with (first | (refine wpList_load_row rfl 209 _ rfl rr (by first | rfl | simp [Act.eval]) 209 A (0, 0) _ hrc Tryz.underlying209 rfl (by rw [size90, hsz]) ?_) | (go_at_call 158; (with_reducible refine HE.out.mono ?_); rintro e w7 ⟨⟨r7, rfl⟩, q0, HF⟩))
    exact HF.out
end Go.Proofs.YtpjnbhflnbhnoaaGreatDoor

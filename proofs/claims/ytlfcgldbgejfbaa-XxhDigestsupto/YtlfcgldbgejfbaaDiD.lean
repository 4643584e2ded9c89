import Derived.Test.YtlfcgldbgejfbaaDiC
import Derived.Lib.SlBytesConst
namespace Go.Proofs.Ytlfcgldbgejfbaa
open Go.RowKit
set_option linter.unusedVariables false
theorem scells_ptr (s o : BitVec 64) (D : Nat → Nat) (T : Nat → Value) (i : Nat) (hi : i < 4) (d : Nat) : (scells s o D T).setIfInBounds i (.pointer (some ⟨d, 0, none⟩)) = scells s o (upd D i d) T := by
  obtain rfl | rfl | rfl | rfl : i = 0 ∨ i = 1 ∨ i = 2 ∨ i = 3 := by omega
  all_goals simp [scells, upd]
/-- A digest goes on as its copy. -/
theorem DInv.cloned {w : World} {sb : Nat} {s o : BitVec 64} {D : Nat → Nat} {T : Nat → Value} {L : Nat → List By} {V : World} (h : DInv w sb s o D T L V) (i : Nat) (hi : i < 4) (W : World) (d : Nat) (hN : Nw V W) (hd : V.heap.size ≤ d) (hT : Tk s o i d (L i) W) (U : World) (hU : Fr (fun k => k = D i) (W.setCell ⟨sb, i, none⟩ (.pointer (some ⟨d, 0, none⟩))) U) :
    DInv w sb s o (upd D i d) T L U := by
  have hsl : sb < V.heap.size := (Array.getElem?_eq_some_iff.1 h.st).1
  have hst : W.heap[sb]? = some (.cells (scells s o D T) 36) := hN.heap h.st
  have hS : Fr (fun k => k = sb) W (W.setCell ⟨sb, i, none⟩ (.pointer (some ⟨d, 0, none⟩))) := (Fr.refl _ _).setCell _ _ (.inl rfl)
  have hdl := hT.lt
  have hSU : Fr (fun k => k = D i ∨ k = sb) W U := (hS.mono (fun k hk => .inl (.inr hk))).trans (hU.mono (fun k hk => .inl (.inl hk)))
  have hVU : Fr (fun k => k = D i ∨ k = sb) V U := Fr.then hN.any hSU (fun k hk => .inl hk)
  have hlt : ∀ j, j < 4 → D j < V.heap.size := fun j hj => (h.tk j hj).lt
  refine ⟨?_, ?_, ?_, ?_, ?_, ?_, ?_⟩
  · rw [← scells_ptr s o D T i hi d]
    have hst' : (W.setCell ⟨sb, i, none⟩ (.pointer (some ⟨d, 0, none⟩))).heap[sb]? = some (.cells ((scells s o D T).setIfInBounds i (.pointer (some ⟨d, 0, none⟩))) 36) := by
      simp only [World.setCell, Array.getElem?_modify, hst]
      simp
    exact (hU.block sb (Array.getElem?_eq_some_iff.1 hst').1 (fun e => h.sbd i hi e.symm)).trans hst'
  · intro j hj
    by_cases e : j = i
    · subst e
      simp only [upd, if_pos]
      exact hT.kept hSU (fun hk => by have := hlt j hj; rcases hk with hk | hk <;> omega)
    · simp only [upd, if_neg e]
      exact (h.tk j hj).kept hVU (fun hk => by
        rcases hk with hk | hk
        · exact e (h.inj j i hj hi hk)
        · exact h.sbd j hj hk)
  · intro j hj
    rcases h.own j hj with ho | ⟨g, h1, h2, h3⟩
    · exact .inl ho
    · have hgl := h3.lt
      refine .inr ⟨g, h1, fun k hk => ?_, h3.kept hVU (fun hk => by rcases hk with hk | hk; exact h2 i hi hk; exact h1 hk)⟩
      by_cases e : k = i
      · simp only [upd, if_pos e]; omega
      · simp only [upd, if_neg e]; exact h2 k hk
  · intro j k hj hk he
    have := hlt j hj
    have := hlt k hk
    by_cases e1 : j = i <;> by_cases e2 : k = i <;> simp only [upd, e1, e2, if_pos, if_neg, not_false_eq_true] at he ⊢
    · omega
    · omega
    · exact h.inj j k hj hk he
  · intro j hj
    by_cases e : j = i
    · simp only [upd, if_pos e]; omega
    · simp only [upd, if_neg e]; exact h.sbd j hj
  · refine ⟨h.base.1, fun j hj => ?_⟩
    by_cases e : j = i
    · simp only [upd, if_pos e]; exact Nat.le_trans h.nw.size hd
    · simp only [upd, if_neg e]; exact h.base.2 j hj
  · refine Fr.then h.nw hVU (fun k hk => .inr ?_)
    rcases hk with rfl | rfl
    · exact h.base.2 i hi
    · exact h.base.1
def junk : List By := [108#8, 101#8, 102#8, 116#8, 32#8, 98#8, 101#8, 104#8, 105#8, 110#8, 100#8, 44#8, 32#8, 97#8, 110#8, 100#8, 32#8, 108#8, 111#8, 110#8, 103#8, 32#8, 101#8, 110#8, 111#8, 117#8, 103#8, 104#8, 32#8, 102#8, 111#8, 114#8, 32#8, 97#8, 110#8, 121#8, 32#8, 115#8, 116#8, 114#8, 105#8, 112#8, 101#8, 32#8, 116#8, 104#8, 97#8, 116#8, 32#8, 116#8, 104#8, 101#8, 114#8, 101#8, 32#8, 105#8, 115#8]
theorem results_tmp4 {fn : Func} {t u v x : Tmp} (h : fn.results = #[.tmp t, .tmp u, .tmp v, .tmp x]) (tmps : Array Value) (P : Program) (w : World) :
    (results fn tmps).run P w = .ok (.tuple #[tmps.getD t undef, tmps.getD u undef, tmps.getD v undef, tmps.getD x undef]) w := by
  simp [results, h]
theorem rd_push (V : World) (xs : List By) (fr : Nat × Nat) : Rd V.heap.size 0 xs (V.alloc (.cells (xs.map bv).toArray 5 fr)) := by
  intro j hj
  have e := pushed V (.cells (xs.map bv).toArray 5 fr)
  rw [Nat.zero_add]
  generalize V.alloc (.cells (xs.map bv).toArray 5 fr) = W at *
  simp [World.cell?, e, hj]
theorem junk_cells : (junk.map bv).toArray = #[.int .u8 108, .int .u8 101, .int .u8 102, .int .u8 116, .int .u8 32, .int .u8 98, .int .u8 101, .int .u8 104, .int .u8 105, .int .u8 110, .int .u8 100, .int .u8 44, .int .u8 32, .int .u8 97, .int .u8 110, .int .u8 100, .int .u8 32, .int .u8 108, .int .u8 111, .int .u8 110, .int .u8 103, .int .u8 32, .int .u8 101, .int .u8 110, .int .u8 111, .int .u8 117, .int .u8 103, .int .u8 104, .int .u8 32, .int .u8 102, .int .u8 111, .int .u8 114, .int .u8 32, .int .u8 97, .int .u8 110, .int .u8 121, .int .u8 32, .int .u8 115, .int .u8 116, .int .u8 114, .int .u8 105, .int .u8 112, .int .u8 101, .int .u8 32, .int .u8 116, .int .u8 104, .int .u8 97, .int .u8 116, .int .u8 32, .int .u8 116, .int .u8 104, .int .u8 101, .int .u8 114, .int .u8 101, .int .u8 32, .int .u8 105, .int .u8 115] := by rfl
set_option maxHeartbeats 4000000 in
set_option maxRecDepth 100000 in
theorem reset0 (w : World) (sb : Nat) (s o : BitVec 64) (D : Nat → Nat) (T : Nat → Value) (L : Nat → List By) (V : World) (h : DInv w sb s o D T L V) :
    Calls Try.prog 17 #[.pointer (some ⟨sb, 0, none⟩), .int .i64 0] V fun e w' => e = .returned (.tuple #[.pointer (some ⟨D 0, 0, none⟩), .pointer (some ⟨D 1, 0, none⟩), .pointer (some ⟨D 2, 0, none⟩), .pointer (some ⟨D 3, 0, none⟩)]) ∧ Fr (fun k => k = D 0) V w' ∧ Tk s o 0 (D 0) [] w' := by
  have k : Took32 (D 0) (s.setWidth 32) (L 0) V := h.tk 0 (by decide)
  have c0 : V.cell? ⟨sb, 0, none⟩ = some (.pointer (some ⟨D 0, 0, none⟩)) := h.cell 0 _ rfl
  have HR : Hid (Calls Try.prog 31 #[.pointer (some ⟨D 0, 0, none⟩)] V fun e w1 => (∃ r, e = .returned r) ∧ Hid (Took32 (D 0) (s.setWidth 32) [] w1 ∧ Fr (fun k => k = D 0) V w1) ∧ w1.cell? ⟨sb, 0, none⟩ = some (.pointer (some ⟨D 0, 0, none⟩)) ∧ w1.cell? ⟨sb, 1, none⟩ = some (.pointer (some ⟨D 1, 0, none⟩)) ∧ w1.cell? ⟨sb, 2, none⟩ = some (.pointer (some ⟨D 2, 0, none⟩)) ∧ w1.cell? ⟨sb, 3, none⟩ = some (.pointer (some ⟨D 3, 0, none⟩))) := by
    refine (reset32_any (D 0) _ (L 0) V k).mono ?_
    rintro e w1 ⟨hr, hT, hF⟩
    have hx : ¬ sb = D 0 := fun e => h.sbd 0 (by decide) e.symm
    exact ⟨hr, ⟨hT, hF⟩, hF.cellv (h.cell 0 _ rfl) hx, hF.cellv (h.cell 1 _ rfl) hx, hF.cellv (h.cell 2 _ rfl) hx, hF.cellv (h.cell 3 _ rfl) hx⟩
  clear h k
  go_enter Try.func17, Try.ntmps17
  go_wp2_with (go_at_call 31; with_reducible refine (HR.out).mono ?_; rintro e w1 ⟨⟨r1, rfl⟩, HT, q0, q1, q2, q3⟩)
  go_quiet (fail)
  all_goals go_wp2_with fail
  all_goals ((try simp only [Exit.inBlock, Exit.then]); refine bodyPost_ret (results_tmp4 rfl _ _ _) rfl ?_)
  all_goals exact ⟨rfl, HT.out.2.drewN _, Took32.nw HT.out.1 ((Fr.refl _ _).drewN _)⟩
set_option maxHeartbeats 4000000 in
set_option maxRecDepth 100000 in
theorem reset1 (w : World) (sb : Nat) (s o : BitVec 64) (D : Nat → Nat) (T : Nat → Value) (L : Nat → List By) (V : World) (h : DInv w sb s o D T L V) :
    Calls Try.prog 17 #[.pointer (some ⟨sb, 0, none⟩), .int .i64 1] V fun e w' => e = .returned (.tuple #[.pointer (some ⟨D 0, 0, none⟩), .pointer (some ⟨D 1, 0, none⟩), .pointer (some ⟨D 2, 0, none⟩), .pointer (some ⟨D 3, 0, none⟩)]) ∧ Fr (fun k => k = D 1) V w' ∧ Tk s o 1 (D 1) [] w' := by
  have k : Took32 (D 1) (o.setWidth 32) (L 1) V := h.tk 1 (by decide)
  have c1 : V.cell? ⟨sb, 1, none⟩ = some (.pointer (some ⟨D 1, 0, none⟩)) := h.cell 1 _ rfl
  have HR : Hid (Calls Try.prog 31 #[.pointer (some ⟨D 1, 0, none⟩)] V fun e w1 => (∃ r, e = .returned r) ∧ Hid (Took32 (D 1) (o.setWidth 32) [] w1 ∧ Fr (fun k => k = D 1) V w1) ∧ w1.cell? ⟨sb, 0, none⟩ = some (.pointer (some ⟨D 0, 0, none⟩)) ∧ w1.cell? ⟨sb, 1, none⟩ = some (.pointer (some ⟨D 1, 0, none⟩)) ∧ w1.cell? ⟨sb, 2, none⟩ = some (.pointer (some ⟨D 2, 0, none⟩)) ∧ w1.cell? ⟨sb, 3, none⟩ = some (.pointer (some ⟨D 3, 0, none⟩))) := by
    refine (reset32_any (D 1) _ (L 1) V k).mono ?_
    rintro e w1 ⟨hr, hT, hF⟩
    have hx : ¬ sb = D 1 := fun e => h.sbd 1 (by decide) e.symm
    exact ⟨hr, ⟨hT, hF⟩, hF.cellv (h.cell 0 _ rfl) hx, hF.cellv (h.cell 1 _ rfl) hx, hF.cellv (h.cell 2 _ rfl) hx, hF.cellv (h.cell 3 _ rfl) hx⟩
  clear h k
  go_enter Try.func17, Try.ntmps17
  go_wp2_with (go_at_call 31; with_reducible refine (HR.out).mono ?_; rintro e w1 ⟨⟨r1, rfl⟩, HT, q0, q1, q2, q3⟩)
  go_quiet (fail)
  all_goals go_wp2_with fail
  all_goals ((try simp only [Exit.inBlock, Exit.then]); refine bodyPost_ret (results_tmp4 rfl _ _ _) rfl ?_)
  all_goals exact ⟨rfl, HT.out.2.drewN _, Took32.nw HT.out.1 ((Fr.refl _ _).drewN _)⟩
set_option maxHeartbeats 4000000 in
set_option maxRecDepth 100000 in
theorem reset2 (w : World) (sb : Nat) (s o : BitVec 64) (D : Nat → Nat) (T : Nat → Value) (L : Nat → List By) (V : World) (h : DInv w sb s o D T L V) :
    Calls Try.prog 17 #[.pointer (some ⟨sb, 0, none⟩), .int .i64 2] V fun e w' => e = .returned (.tuple #[.pointer (some ⟨D 0, 0, none⟩), .pointer (some ⟨D 1, 0, none⟩), .pointer (some ⟨D 2, 0, none⟩), .pointer (some ⟨D 3, 0, none⟩)]) ∧ Fr (fun k => k = D 2) V w' ∧ Tk s o 2 (D 2) [] w' := by
  have k : Took64 (D 2) s (L 2) V := h.tk 2 (by decide)
  have c2 : V.cell? ⟨sb, 2, none⟩ = some (.pointer (some ⟨D 2, 0, none⟩)) := h.cell 2 _ rfl
  have HR : Hid (Calls Try.prog 32 #[.pointer (some ⟨D 2, 0, none⟩)] V fun e w1 => (∃ r, e = .returned r) ∧ Hid (Took64 (D 2) s [] w1 ∧ Fr (fun k => k = D 2) V w1) ∧ w1.cell? ⟨sb, 0, none⟩ = some (.pointer (some ⟨D 0, 0, none⟩)) ∧ w1.cell? ⟨sb, 1, none⟩ = some (.pointer (some ⟨D 1, 0, none⟩)) ∧ w1.cell? ⟨sb, 2, none⟩ = some (.pointer (some ⟨D 2, 0, none⟩)) ∧ w1.cell? ⟨sb, 3, none⟩ = some (.pointer (some ⟨D 3, 0, none⟩))) := by
    refine (reset64_any (D 2) _ (L 2) V k).mono ?_
    rintro e w1 ⟨hr, hT, hF⟩
    have hx : ¬ sb = D 2 := fun e => h.sbd 2 (by decide) e.symm
    exact ⟨hr, ⟨hT, hF⟩, hF.cellv (h.cell 0 _ rfl) hx, hF.cellv (h.cell 1 _ rfl) hx, hF.cellv (h.cell 2 _ rfl) hx, hF.cellv (h.cell 3 _ rfl) hx⟩
  clear h k
  go_enter Try.func17, Try.ntmps17
  go_wp2_with (go_at_call 32; with_reducible refine (HR.out).mono ?_; rintro e w1 ⟨⟨r1, rfl⟩, HT, q0, q1, q2, q3⟩)
  go_quiet (fail)
  all_goals go_wp2_with fail
  all_goals ((try simp only [Exit.inBlock, Exit.then]); refine bodyPost_ret (results_tmp4 rfl _ _ _) rfl ?_)
  all_goals exact ⟨rfl, HT.out.2.drewN _, Took64.nw HT.out.1 ((Fr.refl _ _).drewN _)⟩
set_option maxHeartbeats 4000000 in
set_option maxRecDepth 100000 in
theorem reset3 (w : World) (sb : Nat) (s o : BitVec 64) (D : Nat → Nat) (T : Nat → Value) (L : Nat → List By) (V : World) (h : DInv w sb s o D T L V) :
    Calls Try.prog 17 #[.pointer (some ⟨sb, 0, none⟩), .int .i64 3] V fun e w' => e = .returned (.tuple #[.pointer (some ⟨D 0, 0, none⟩), .pointer (some ⟨D 1, 0, none⟩), .pointer (some ⟨D 2, 0, none⟩), .pointer (some ⟨D 3, 0, none⟩)]) ∧ Fr (fun k => k = D 3) V w' ∧ Tk s o 3 (D 3) [] w' := by
  have k : Took64 (D 3) o (L 3) V := h.tk 3 (by decide)
  have c3 : V.cell? ⟨sb, 3, none⟩ = some (.pointer (some ⟨D 3, 0, none⟩)) := h.cell 3 _ rfl
  have HR : Hid (Calls Try.prog 32 #[.pointer (some ⟨D 3, 0, none⟩)] V fun e w1 => (∃ r, e = .returned r) ∧ Hid (Took64 (D 3) o [] w1 ∧ Fr (fun k => k = D 3) V w1) ∧ w1.cell? ⟨sb, 0, none⟩ = some (.pointer (some ⟨D 0, 0, none⟩)) ∧ w1.cell? ⟨sb, 1, none⟩ = some (.pointer (some ⟨D 1, 0, none⟩)) ∧ w1.cell? ⟨sb, 2, none⟩ = some (.pointer (some ⟨D 2, 0, none⟩)) ∧ w1.cell? ⟨sb, 3, none⟩ = some (.pointer (some ⟨D 3, 0, none⟩))) := by
    refine (reset64_any (D 3) _ (L 3) V k).mono ?_
    rintro e w1 ⟨hr, hT, hF⟩
    have hx : ¬ sb = D 3 := fun e => h.sbd 3 (by decide) e.symm
    exact ⟨hr, ⟨hT, hF⟩, hF.cellv (h.cell 0 _ rfl) hx, hF.cellv (h.cell 1 _ rfl) hx, hF.cellv (h.cell 2 _ rfl) hx, hF.cellv (h.cell 3 _ rfl) hx⟩
  clear h k
  go_enter Try.func17, Try.ntmps17
  go_wp2_with (go_at_call 32; with_reducible refine (HR.out).mono ?_; rintro e w1 ⟨⟨r1, rfl⟩, HT, q0, q1, q2, q3⟩)
  go_quiet (fail)
  all_goals go_wp2_with fail
  all_goals ((try simp only [Exit.inBlock, Exit.then]); refine bodyPost_ret (results_tmp4 rfl _ _ _) rfl ?_)
  all_goals exact ⟨rfl, HT.out.2.drewN _, Took64.nw HT.out.1 ((Fr.refl _ _).drewN _)⟩
set_option maxHeartbeats 4000000 in
set_option maxRecDepth 100000 in
theorem clones0 (w : World) (sb : Nat) (s o : BitVec 64) (D : Nat → Nat) (T : Nat → Value) (L : Nat → List By) (V : World) (h : DInv w sb s o D T L V) :
    Calls Try.prog 18 #[.pointer (some ⟨sb, 0, none⟩), .int .i64 0] V fun e w' => e = .returned (.bool true) ∧ ∃ d, DInv w sb s o (upd D 0 d) T L w' := by
  have hsl : sb < V.heap.size := (Array.getElem?_eq_some_iff.1 h.st).1
  obtain ⟨VJ, hVJ⟩ : ∃ X, X = V.alloc (.cells #[.int .u8 108, .int .u8 101, .int .u8 102, .int .u8 116, .int .u8 32, .int .u8 98, .int .u8 101, .int .u8 104, .int .u8 105, .int .u8 110, .int .u8 100, .int .u8 44, .int .u8 32, .int .u8 97, .int .u8 110, .int .u8 100, .int .u8 32, .int .u8 108, .int .u8 111, .int .u8 110, .int .u8 103, .int .u8 32, .int .u8 101, .int .u8 110, .int .u8 111, .int .u8 117, .int .u8 103, .int .u8 104, .int .u8 32, .int .u8 102, .int .u8 111, .int .u8 114, .int .u8 32, .int .u8 97, .int .u8 110, .int .u8 121, .int .u8 32, .int .u8 115, .int .u8 116, .int .u8 114, .int .u8 105, .int .u8 112, .int .u8 101, .int .u8 32, .int .u8 116, .int .u8 104, .int .u8 97, .int .u8 116, .int .u8 32, .int .u8 116, .int .u8 104, .int .u8 101, .int .u8 114, .int .u8 101, .int .u8 32, .int .u8 105, .int .u8 115] 5 (57, 58)) := ⟨_, rfl⟩
  have hNJ : Nw V VJ := by rw [hVJ]; exact (Fr.refl _ _).alloc _
  have hBJ : Rd V.heap.size 0 junk VJ := by rw [hVJ, ← junk_cells]; exact rd_push V junk (57, 58)
  have hJ := h.nws hNJ
  have k : Took32 (D 0) (s.setWidth 32) (L 0) VJ := hJ.tk 0 (by decide)
  have c0 : VJ.cell? ⟨sb, 0, none⟩ = some (.pointer (some ⟨D 0, 0, none⟩)) := hJ.cell 0 _ rfl
  have HC : Hid (Calls Try.prog 33 #[.pointer (some ⟨D 0, 0, none⟩)] VJ fun e w1 => ∃ d, e = .returned (.pointer (some ⟨d, 0, none⟩)) ∧ w1.cell? ⟨sb, 0, none⟩ = some (.pointer (some ⟨D 0, 0, none⟩)) ∧ w1.frozen? ⟨sb, 0, none⟩ = false ∧
      Hid (Calls Try.prog 20 #[.pointer (some ⟨D 0, 0, none⟩), .slice (some ⟨V.heap.size, 0, none⟩) 57 57] (w1.setCell ⟨sb, 0, none⟩ (.pointer (some ⟨d, 0, none⟩))) fun e w2 => (∃ r, e = .returned r) ∧ w2.cell? ⟨sb, 0, none⟩ = some (.pointer (some ⟨d, 0, none⟩)) ∧ Hid (DInv w sb s o (upd D 0 d) T L w2))) := by
    refine (clone32_any (D 0) _ (L 0) VJ k).mono ?_
    rintro e w1 ⟨he, hN, hT, hs⟩
    have h1 := hJ.nws hN
    have hdl : D 0 < VJ.heap.size := (hJ.tk 0 (by decide)).lt
    have hS : Fr (fun k => k = sb) w1 (w1.setCell ⟨sb, 0, none⟩ (.pointer (some ⟨VJ.heap.size, 0, none⟩))) := (Fr.refl _ _).setCell _ _ (.inl rfl)
    refine ⟨_, he, h1.cell 0 _ rfl, h1.free 0, ?_⟩
    show Calls _ _ _ _ _
    have hne : V.heap.size ≠ sb := by omega
    have hDV : D 0 < V.heap.size := (h.tk 0 (by decide)).lt
    have hB1 : Rd V.heap.size 0 junk (w1.setCell ⟨sb, 0, none⟩ (.pointer (some ⟨VJ.heap.size, 0, none⟩))) := (hBJ.kept hN (fun h => h)).kept hS hne
    have hsb : ¬ (D 0 = sb) := h.sbd 0 (by decide)
    refine (write32_any (D 0) (s.setWidth 32) (L 0) _ junk _ (((h1.tk 0 (by decide) : Took32 (D 0) (s.setWidth 32) (L 0) w1)).kept hS hsb) (.inr ⟨V.heap.size, by show ¬ V.heap.size = D 0; omega, 0, 57, rfl, by decide, by decide, hB1⟩)).mono ?_
    rintro e w2 ⟨hr, _, hF⟩
    have hI := hJ.cloned 0 (by decide) w1 VJ.heap.size hN (Nat.le_refl _) hT w2 hF
    exact ⟨hr, hI.cell 0 _ (by simp [scells, upd]), hI⟩
  clear h hJ k hBJ hNJ
  have hne1 : ¬ sb = V.heap.size := by omega
  have hne2 : ¬ V.heap.size = sb := by omega
  subst hVJ
  have hcv : (convert 24 24 (.slice (some ⟨V.heap.size, 0, none⟩) 57 57)).run Try.prog (V.alloc (.cells #[.int .u8 108, .int .u8 101, .int .u8 102, .int .u8 116, .int .u8 32, .int .u8 98, .int .u8 101, .int .u8 104, .int .u8 105, .int .u8 110, .int .u8 100, .int .u8 44, .int .u8 32, .int .u8 97, .int .u8 110, .int .u8 100, .int .u8 32, .int .u8 108, .int .u8 111, .int .u8 110, .int .u8 103, .int .u8 32, .int .u8 101, .int .u8 110, .int .u8 111, .int .u8 117, .int .u8 103, .int .u8 104, .int .u8 32, .int .u8 102, .int .u8 111, .int .u8 114, .int .u8 32, .int .u8 97, .int .u8 110, .int .u8 121, .int .u8 32, .int .u8 115, .int .u8 116, .int .u8 114, .int .u8 105, .int .u8 112, .int .u8 101, .int .u8 32, .int .u8 116, .int .u8 104, .int .u8 97, .int .u8 116, .int .u8 32, .int .u8 116, .int .u8 104, .int .u8 101, .int .u8 114, .int .u8 101, .int .u8 32, .int .u8 105, .int .u8 115] 5)) = .ok (.slice (some ⟨V.heap.size, 0, none⟩) 57 57) (V.alloc (.cells #[.int .u8 108, .int .u8 101, .int .u8 102, .int .u8 116, .int .u8 32, .int .u8 98, .int .u8 101, .int .u8 104, .int .u8 105, .int .u8 110, .int .u8 100, .int .u8 44, .int .u8 32, .int .u8 97, .int .u8 110, .int .u8 100, .int .u8 32, .int .u8 108, .int .u8 111, .int .u8 110, .int .u8 103, .int .u8 32, .int .u8 101, .int .u8 110, .int .u8 111, .int .u8 117, .int .u8 103, .int .u8 104, .int .u8 32, .int .u8 102, .int .u8 111, .int .u8 114, .int .u8 32, .int .u8 97, .int .u8 110, .int .u8 121, .int .u8 32, .int .u8 115, .int .u8 116, .int .u8 114, .int .u8 105, .int .u8 112, .int .u8 101, .int .u8 32, .int .u8 116, .int .u8 104, .int .u8 97, .int .u8 116, .int .u8 32, .int .u8 116, .int .u8 104, .int .u8 101, .int .u8 114, .int .u8 101, .int .u8 32, .int .u8 105, .int .u8 115] 5 (57, 58))) := Lib.run_convert_bytes_const V 24 5 _ 57 57 Try.underlying24 Try.underlying5
  go_enter Try.func18, Try.ntmps18
  go_wp2_with (first
    | (go_at_call 33; with_reducible refine (HC.out).mono ?_; rintro e w1 ⟨d, rfl, q0, q1, HW⟩)
    | (go_at_call 20; with_reducible refine (HW.out).mono ?_; rintro e w2 ⟨⟨r2, rfl⟩, q2, HI⟩))
  all_goals go_ret
  all_goals exact ⟨rfl, d, HI.out⟩
set_option maxHeartbeats 4000000 in
set_option maxRecDepth 100000 in
theorem clones1 (w : World) (sb : Nat) (s o : BitVec 64) (D : Nat → Nat) (T : Nat → Value) (L : Nat → List By) (V : World) (h : DInv w sb s o D T L V) :
    Calls Try.prog 18 #[.pointer (some ⟨sb, 0, none⟩), .int .i64 1] V fun e w' => e = .returned (.bool true) ∧ ∃ d, DInv w sb s o (upd D 1 d) T L w' := by
  have hsl : sb < V.heap.size := (Array.getElem?_eq_some_iff.1 h.st).1
  obtain ⟨VJ, hVJ⟩ : ∃ X, X = V.alloc (.cells #[.int .u8 108, .int .u8 101, .int .u8 102, .int .u8 116, .int .u8 32, .int .u8 98, .int .u8 101, .int .u8 104, .int .u8 105, .int .u8 110, .int .u8 100, .int .u8 44, .int .u8 32, .int .u8 97, .int .u8 110, .int .u8 100, .int .u8 32, .int .u8 108, .int .u8 111, .int .u8 110, .int .u8 103, .int .u8 32, .int .u8 101, .int .u8 110, .int .u8 111, .int .u8 117, .int .u8 103, .int .u8 104, .int .u8 32, .int .u8 102, .int .u8 111, .int .u8 114, .int .u8 32, .int .u8 97, .int .u8 110, .int .u8 121, .int .u8 32, .int .u8 115, .int .u8 116, .int .u8 114, .int .u8 105, .int .u8 112, .int .u8 101, .int .u8 32, .int .u8 116, .int .u8 104, .int .u8 97, .int .u8 116, .int .u8 32, .int .u8 116, .int .u8 104, .int .u8 101, .int .u8 114, .int .u8 101, .int .u8 32, .int .u8 105, .int .u8 115] 5 (57, 58)) := ⟨_, rfl⟩
  have hNJ : Nw V VJ := by rw [hVJ]; exact (Fr.refl _ _).alloc _
  have hBJ : Rd V.heap.size 0 junk VJ := by rw [hVJ, ← junk_cells]; exact rd_push V junk (57, 58)
  have hJ := h.nws hNJ
  have k : Took32 (D 1) (o.setWidth 32) (L 1) VJ := hJ.tk 1 (by decide)
  have c0 : VJ.cell? ⟨sb, 1, none⟩ = some (.pointer (some ⟨D 1, 0, none⟩)) := hJ.cell 1 _ rfl
  have HC : Hid (Calls Try.prog 33 #[.pointer (some ⟨D 1, 0, none⟩)] VJ fun e w1 => ∃ d, e = .returned (.pointer (some ⟨d, 0, none⟩)) ∧ w1.cell? ⟨sb, 1, none⟩ = some (.pointer (some ⟨D 1, 0, none⟩)) ∧ w1.frozen? ⟨sb, 1, none⟩ = false ∧
      Hid (Calls Try.prog 20 #[.pointer (some ⟨D 1, 0, none⟩), .slice (some ⟨V.heap.size, 0, none⟩) 57 57] (w1.setCell ⟨sb, 1, none⟩ (.pointer (some ⟨d, 0, none⟩))) fun e w2 => (∃ r, e = .returned r) ∧ w2.cell? ⟨sb, 1, none⟩ = some (.pointer (some ⟨d, 0, none⟩)) ∧ Hid (DInv w sb s o (upd D 1 d) T L w2))) := by
    refine (clone32_any (D 1) _ (L 1) VJ k).mono ?_
    rintro e w1 ⟨he, hN, hT, hs⟩
    have h1 := hJ.nws hN
    have hdl : D 1 < VJ.heap.size := (hJ.tk 1 (by decide)).lt
    have hS : Fr (fun k => k = sb) w1 (w1.setCell ⟨sb, 1, none⟩ (.pointer (some ⟨VJ.heap.size, 0, none⟩))) := (Fr.refl _ _).setCell _ _ (.inl rfl)
    refine ⟨_, he, h1.cell 1 _ rfl, h1.free 1, ?_⟩
    show Calls _ _ _ _ _
    have hne : V.heap.size ≠ sb := by omega
    have hDV : D 1 < V.heap.size := (h.tk 1 (by decide)).lt
    have hB1 : Rd V.heap.size 0 junk (w1.setCell ⟨sb, 1, none⟩ (.pointer (some ⟨VJ.heap.size, 0, none⟩))) := (hBJ.kept hN (fun h => h)).kept hS hne
    have hsb : ¬ (D 1 = sb) := h.sbd 1 (by decide)
    refine (write32_any (D 1) (o.setWidth 32) (L 1) _ junk _ (((h1.tk 1 (by decide) : Took32 (D 1) (o.setWidth 32) (L 1) w1)).kept hS hsb) (.inr ⟨V.heap.size, by show ¬ V.heap.size = D 1; omega, 0, 57, rfl, by decide, by decide, hB1⟩)).mono ?_
    rintro e w2 ⟨hr, _, hF⟩
    have hI := hJ.cloned 1 (by decide) w1 VJ.heap.size hN (Nat.le_refl _) hT w2 hF
    exact ⟨hr, hI.cell 1 _ (by simp [scells, upd]), hI⟩
  clear h hJ k hBJ hNJ
  have hne1 : ¬ sb = V.heap.size := by omega
  have hne2 : ¬ V.heap.size = sb := by omega
  subst hVJ
  have hcv : (convert 24 24 (.slice (some ⟨V.heap.size, 0, none⟩) 57 57)).run Try.prog (V.alloc (.cells #[.int .u8 108, .int .u8 101, .int .u8 102, .int .u8 116, .int .u8 32, .int .u8 98, .int .u8 101, .int .u8 104, .int .u8 105, .int .u8 110, .int .u8 100, .int .u8 44, .int .u8 32, .int .u8 97, .int .u8 110, .int .u8 100, .int .u8 32, .int .u8 108, .int .u8 111, .int .u8 110, .int .u8 103, .int .u8 32, .int .u8 101, .int .u8 110, .int .u8 111, .int .u8 117, .int .u8 103, .int .u8 104, .int .u8 32, .int .u8 102, .int .u8 111, .int .u8 114, .int .u8 32, .int .u8 97, .int .u8 110, .int .u8 121, .int .u8 32, .int .u8 115, .int .u8 116, .int .u8 114, .int .u8 105, .int .u8 112, .int .u8 101, .int .u8 32, .int .u8 116, .int .u8 104, .int .u8 97, .int .u8 116, .int .u8 32, .int .u8 116, .int .u8 104, .int .u8 101, .int .u8 114, .int .u8 101, .int .u8 32, .int .u8 105, .int .u8 115] 5)) = .ok (.slice (some ⟨V.heap.size, 0, none⟩) 57 57) (V.alloc (.cells #[.int .u8 108, .int .u8 101, .int .u8 102, .int .u8 116, .int .u8 32, .int .u8 98, .int .u8 101, .int .u8 104, .int .u8 105, .int .u8 110, .int .u8 100, .int .u8 44, .int .u8 32, .int .u8 97, .int .u8 110, .int .u8 100, .int .u8 32, .int .u8 108, .int .u8 111, .int .u8 110, .int .u8 103, .int .u8 32, .int .u8 101, .int .u8 110, .int .u8 111, .int .u8 117, .int .u8 103, .int .u8 104, .int .u8 32, .int .u8 102, .int .u8 111, .int .u8 114, .int .u8 32, .int .u8 97, .int .u8 110, .int .u8 121, .int .u8 32, .int .u8 115, .int .u8 116, .int .u8 114, .int .u8 105, .int .u8 112, .int .u8 101, .int .u8 32, .int .u8 116, .int .u8 104, .int .u8 97, .int .u8 116, .int .u8 32, .int .u8 116, .int .u8 104, .int .u8 101, .int .u8 114, .int .u8 101, .int .u8 32, .int .u8 105, .int .u8 115] 5 (57, 58))) := Lib.run_convert_bytes_const V 24 5 _ 57 57 Try.underlying24 Try.underlying5
  go_enter Try.func18, Try.ntmps18
  go_wp2_with (first
    | (go_at_call 33; with_reducible refine (HC.out).mono ?_; rintro e w1 ⟨d, rfl, q0, q1, HW⟩)
    | (go_at_call 20; with_reducible refine (HW.out).mono ?_; rintro e w2 ⟨⟨r2, rfl⟩, q2, HI⟩))
  all_goals go_ret
  all_goals exact ⟨rfl, d, HI.out⟩
set_option maxHeartbeats 4000000 in
set_option maxRecDepth 100000 in
theorem clones2 (w : World) (sb : Nat) (s o : BitVec 64) (D : Nat → Nat) (T : Nat → Value) (L : Nat → List By) (V : World) (h : DInv w sb s o D T L V) :
    Calls Try.prog 18 #[.pointer (some ⟨sb, 0, none⟩), .int .i64 2] V fun e w' => e = .returned (.bool true) ∧ ∃ d, DInv w sb s o (upd D 2 d) T L w' := by
  have hsl : sb < V.heap.size := (Array.getElem?_eq_some_iff.1 h.st).1
  obtain ⟨VJ, hVJ⟩ : ∃ X, X = V.alloc (.cells #[.int .u8 108, .int .u8 101, .int .u8 102, .int .u8 116, .int .u8 32, .int .u8 98, .int .u8 101, .int .u8 104, .int .u8 105, .int .u8 110, .int .u8 100, .int .u8 44, .int .u8 32, .int .u8 97, .int .u8 110, .int .u8 100, .int .u8 32, .int .u8 108, .int .u8 111, .int .u8 110, .int .u8 103, .int .u8 32, .int .u8 101, .int .u8 110, .int .u8 111, .int .u8 117, .int .u8 103, .int .u8 104, .int .u8 32, .int .u8 102, .int .u8 111, .int .u8 114, .int .u8 32, .int .u8 97, .int .u8 110, .int .u8 121, .int .u8 32, .int .u8 115, .int .u8 116, .int .u8 114, .int .u8 105, .int .u8 112, .int .u8 101, .int .u8 32, .int .u8 116, .int .u8 104, .int .u8 97, .int .u8 116, .int .u8 32, .int .u8 116, .int .u8 104, .int .u8 101, .int .u8 114, .int .u8 101, .int .u8 32, .int .u8 105, .int .u8 115] 5 (57, 58)) := ⟨_, rfl⟩
  have hNJ : Nw V VJ := by rw [hVJ]; exact (Fr.refl _ _).alloc _
  have hBJ : Rd V.heap.size 0 junk VJ := by rw [hVJ, ← junk_cells]; exact rd_push V junk (57, 58)
  have hJ := h.nws hNJ
  have k : Took64 (D 2) s (L 2) VJ := hJ.tk 2 (by decide)
  have c0 : VJ.cell? ⟨sb, 2, none⟩ = some (.pointer (some ⟨D 2, 0, none⟩)) := hJ.cell 2 _ rfl
  have HC : Hid (Calls Try.prog 34 #[.pointer (some ⟨D 2, 0, none⟩)] VJ fun e w1 => ∃ d, e = .returned (.pointer (some ⟨d, 0, none⟩)) ∧ w1.cell? ⟨sb, 2, none⟩ = some (.pointer (some ⟨D 2, 0, none⟩)) ∧ w1.frozen? ⟨sb, 2, none⟩ = false ∧
      Hid (Calls Try.prog 21 #[.pointer (some ⟨D 2, 0, none⟩), .slice (some ⟨V.heap.size, 0, none⟩) 57 57] (w1.setCell ⟨sb, 2, none⟩ (.pointer (some ⟨d, 0, none⟩))) fun e w2 => (∃ r, e = .returned r) ∧ w2.cell? ⟨sb, 2, none⟩ = some (.pointer (some ⟨d, 0, none⟩)) ∧ Hid (DInv w sb s o (upd D 2 d) T L w2))) := by
    refine (clone64_any (D 2) _ (L 2) VJ k).mono ?_
    rintro e w1 ⟨he, hN, hT, hs⟩
    have h1 := hJ.nws hN
    have hdl : D 2 < VJ.heap.size := (hJ.tk 2 (by decide)).lt
    have hS : Fr (fun k => k = sb) w1 (w1.setCell ⟨sb, 2, none⟩ (.pointer (some ⟨VJ.heap.size, 0, none⟩))) := (Fr.refl _ _).setCell _ _ (.inl rfl)
    refine ⟨_, he, h1.cell 2 _ rfl, h1.free 2, ?_⟩
    show Calls _ _ _ _ _
    have hne : V.heap.size ≠ sb := by omega
    have hDV : D 2 < V.heap.size := (h.tk 2 (by decide)).lt
    have hB1 : Rd V.heap.size 0 junk (w1.setCell ⟨sb, 2, none⟩ (.pointer (some ⟨VJ.heap.size, 0, none⟩))) := (hBJ.kept hN (fun h => h)).kept hS hne
    have hsb : ¬ (D 2 = sb) := h.sbd 2 (by decide)
    refine (write64_any (D 2) s (L 2) _ junk _ (((h1.tk 2 (by decide) : Took64 (D 2) s (L 2) w1)).kept hS hsb) (.inr ⟨V.heap.size, by show ¬ V.heap.size = D 2; omega, 0, 57, rfl, by decide, by decide, hB1⟩)).mono ?_
    rintro e w2 ⟨hr, _, hF⟩
    have hI := hJ.cloned 2 (by decide) w1 VJ.heap.size hN (Nat.le_refl _) hT w2 hF
    exact ⟨hr, hI.cell 2 _ (by simp [scells, upd]), hI⟩
  clear h hJ k hBJ hNJ
  have hne1 : ¬ sb = V.heap.size := by omega
  have hne2 : ¬ V.heap.size = sb := by omega
  subst hVJ
  have hcv : (convert 24 24 (.slice (some ⟨V.heap.size, 0, none⟩) 57 57)).run Try.prog (V.alloc (.cells #[.int .u8 108, .int .u8 101, .int .u8 102, .int .u8 116, .int .u8 32, .int .u8 98, .int .u8 101, .int .u8 104, .int .u8 105, .int .u8 110, .int .u8 100, .int .u8 44, .int .u8 32, .int .u8 97, .int .u8 110, .int .u8 100, .int .u8 32, .int .u8 108, .int .u8 111, .int .u8 110, .int .u8 103, .int .u8 32, .int .u8 101, .int .u8 110, .int .u8 111, .int .u8 117, .int .u8 103, .int .u8 104, .int .u8 32, .int .u8 102, .int .u8 111, .int .u8 114, .int .u8 32, .int .u8 97, .int .u8 110, .int .u8 121, .int .u8 32, .int .u8 115, .int .u8 116, .int .u8 114, .int .u8 105, .int .u8 112, .int .u8 101, .int .u8 32, .int .u8 116, .int .u8 104, .int .u8 97, .int .u8 116, .int .u8 32, .int .u8 116, .int .u8 104, .int .u8 101, .int .u8 114, .int .u8 101, .int .u8 32, .int .u8 105, .int .u8 115] 5)) = .ok (.slice (some ⟨V.heap.size, 0, none⟩) 57 57) (V.alloc (.cells #[.int .u8 108, .int .u8 101, .int .u8 102, .int .u8 116, .int .u8 32, .int .u8 98, .int .u8 101, .int .u8 104, .int .u8 105, .int .u8 110, .int .u8 100, .int .u8 44, .int .u8 32, .int .u8 97, .int .u8 110, .int .u8 100, .int .u8 32, .int .u8 108, .int .u8 111, .int .u8 110, .int .u8 103, .int .u8 32, .int .u8 101, .int .u8 110, .int .u8 111, .int .u8 117, .int .u8 103, .int .u8 104, .int .u8 32, .int .u8 102, .int .u8 111, .int .u8 114, .int .u8 32, .int .u8 97, .int .u8 110, .int .u8 121, .int .u8 32, .int .u8 115, .int .u8 116, .int .u8 114, .int .u8 105, .int .u8 112, .int .u8 101, .int .u8 32, .int .u8 116, .int .u8 104, .int .u8 97, .int .u8 116, .int .u8 32, .int .u8 116, .int .u8 104, .int .u8 101, .int .u8 114, .int .u8 101, .int .u8 32, .int .u8 105, .int .u8 115] 5 (57, 58))) := Lib.run_convert_bytes_const V 24 5 _ 57 57 Try.underlying24 Try.underlying5
  go_enter Try.func18, Try.ntmps18
  go_wp2_with (first
    | (go_at_call 34; with_reducible refine (HC.out).mono ?_; rintro e w1 ⟨d, rfl, q0, q1, HW⟩)
    | (go_at_call 21; with_reducible refine (HW.out).mono ?_; rintro e w2 ⟨⟨r2, rfl⟩, q2, HI⟩))
  all_goals go_ret
  all_goals exact ⟨rfl, d, HI.out⟩
set_option maxHeartbeats 4000000 in
set_option maxRecDepth 100000 in
theorem clones3 (w : World) (sb : Nat) (s o : BitVec 64) (D : Nat → Nat) (T : Nat → Value) (L : Nat → List By) (V : World) (h : DInv w sb s o D T L V) :
    Calls Try.prog 18 #[.pointer (some ⟨sb, 0, none⟩), .int .i64 3] V fun e w' => e = .returned (.bool true) ∧ ∃ d, DInv w sb s o (upd D 3 d) T L w' := by
  have hsl : sb < V.heap.size := (Array.getElem?_eq_some_iff.1 h.st).1
  obtain ⟨VJ, hVJ⟩ : ∃ X, X = V.alloc (.cells #[.int .u8 108, .int .u8 101, .int .u8 102, .int .u8 116, .int .u8 32, .int .u8 98, .int .u8 101, .int .u8 104, .int .u8 105, .int .u8 110, .int .u8 100, .int .u8 44, .int .u8 32, .int .u8 97, .int .u8 110, .int .u8 100, .int .u8 32, .int .u8 108, .int .u8 111, .int .u8 110, .int .u8 103, .int .u8 32, .int .u8 101, .int .u8 110, .int .u8 111, .int .u8 117, .int .u8 103, .int .u8 104, .int .u8 32, .int .u8 102, .int .u8 111, .int .u8 114, .int .u8 32, .int .u8 97, .int .u8 110, .int .u8 121, .int .u8 32, .int .u8 115, .int .u8 116, .int .u8 114, .int .u8 105, .int .u8 112, .int .u8 101, .int .u8 32, .int .u8 116, .int .u8 104, .int .u8 97, .int .u8 116, .int .u8 32, .int .u8 116, .int .u8 104, .int .u8 101, .int .u8 114, .int .u8 101, .int .u8 32, .int .u8 105, .int .u8 115] 5 (57, 58)) := ⟨_, rfl⟩
  have hNJ : Nw V VJ := by rw [hVJ]; exact (Fr.refl _ _).alloc _
  have hBJ : Rd V.heap.size 0 junk VJ := by rw [hVJ, ← junk_cells]; exact rd_push V junk (57, 58)
  have hJ := h.nws hNJ
  have k : Took64 (D 3) o (L 3) VJ := hJ.tk 3 (by decide)
  have c0 : VJ.cell? ⟨sb, 3, none⟩ = some (.pointer (some ⟨D 3, 0, none⟩)) := hJ.cell 3 _ rfl
  have HC : Hid (Calls Try.prog 34 #[.pointer (some ⟨D 3, 0, none⟩)] VJ fun e w1 => ∃ d, e = .returned (.pointer (some ⟨d, 0, none⟩)) ∧ w1.cell? ⟨sb, 3, none⟩ = some (.pointer (some ⟨D 3, 0, none⟩)) ∧ w1.frozen? ⟨sb, 3, none⟩ = false ∧
      Hid (Calls Try.prog 21 #[.pointer (some ⟨D 3, 0, none⟩), .slice (some ⟨V.heap.size, 0, none⟩) 57 57] (w1.setCell ⟨sb, 3, none⟩ (.pointer (some ⟨d, 0, none⟩))) fun e w2 => (∃ r, e = .returned r) ∧ w2.cell? ⟨sb, 3, none⟩ = some (.pointer (some ⟨d, 0, none⟩)) ∧ Hid (DInv w sb s o (upd D 3 d) T L w2))) := by
    refine (clone64_any (D 3) _ (L 3) VJ k).mono ?_
    rintro e w1 ⟨he, hN, hT, hs⟩
    have h1 := hJ.nws hN
    have hdl : D 3 < VJ.heap.size := (hJ.tk 3 (by decide)).lt
    have hS : Fr (fun k => k = sb) w1 (w1.setCell ⟨sb, 3, none⟩ (.pointer (some ⟨VJ.heap.size, 0, none⟩))) := (Fr.refl _ _).setCell _ _ (.inl rfl)
    refine ⟨_, he, h1.cell 3 _ rfl, h1.free 3, ?_⟩
    show Calls _ _ _ _ _
    have hne : V.heap.size ≠ sb := by omega
    have hDV : D 3 < V.heap.size := (h.tk 3 (by decide)).lt
    have hB1 : Rd V.heap.size 0 junk (w1.setCell ⟨sb, 3, none⟩ (.pointer (some ⟨VJ.heap.size, 0, none⟩))) := (hBJ.kept hN (fun h => h)).kept hS hne
    have hsb : ¬ (D 3 = sb) := h.sbd 3 (by decide)
    refine (write64_any (D 3) o (L 3) _ junk _ (((h1.tk 3 (by decide) : Took64 (D 3) o (L 3) w1)).kept hS hsb) (.inr ⟨V.heap.size, by show ¬ V.heap.size = D 3; omega, 0, 57, rfl, by decide, by decide, hB1⟩)).mono ?_
    rintro e w2 ⟨hr, _, hF⟩
    have hI := hJ.cloned 3 (by decide) w1 VJ.heap.size hN (Nat.le_refl _) hT w2 hF
    exact ⟨hr, hI.cell 3 _ (by simp [scells, upd]), hI⟩
  clear h hJ k hBJ hNJ
  have hne1 : ¬ sb = V.heap.size := by omega
  have hne2 : ¬ V.heap.size = sb := by omega
  subst hVJ
  have hcv : (convert 24 24 (.slice (some ⟨V.heap.size, 0, none⟩) 57 57)).run Try.prog (V.alloc (.cells #[.int .u8 108, .int .u8 101, .int .u8 102, .int .u8 116, .int .u8 32, .int .u8 98, .int .u8 101, .int .u8 104, .int .u8 105, .int .u8 110, .int .u8 100, .int .u8 44, .int .u8 32, .int .u8 97, .int .u8 110, .int .u8 100, .int .u8 32, .int .u8 108, .int .u8 111, .int .u8 110, .int .u8 103, .int .u8 32, .int .u8 101, .int .u8 110, .int .u8 111, .int .u8 117, .int .u8 103, .int .u8 104, .int .u8 32, .int .u8 102, .int .u8 111, .int .u8 114, .int .u8 32, .int .u8 97, .int .u8 110, .int .u8 121, .int .u8 32, .int .u8 115, .int .u8 116, .int .u8 114, .int .u8 105, .int .u8 112, .int .u8 101, .int .u8 32, .int .u8 116, .int .u8 104, .int .u8 97, .int .u8 116, .int .u8 32, .int .u8 116, .int .u8 104, .int .u8 101, .int .u8 114, .int .u8 101, .int .u8 32, .int .u8 105, .int .u8 115] 5)) = .ok (.slice (some ⟨V.heap.size, 0, none⟩) 57 57) (V.alloc (.cells #[.int .u8 108, .int .u8 101, .int .u8 102, .int .u8 116, .int .u8 32, .int .u8 98, .int .u8 101, .int .u8 104, .int .u8 105, .int .u8 110, .int .u8 100, .int .u8 44, .int .u8 32, .int .u8 97, .int .u8 110, .int .u8 100, .int .u8 32, .int .u8 108, .int .u8 111, .int .u8 110, .int .u8 103, .int .u8 32, .int .u8 101, .int .u8 110, .int .u8 111, .int .u8 117, .int .u8 103, .int .u8 104, .int .u8 32, .int .u8 102, .int .u8 111, .int .u8 114, .int .u8 32, .int .u8 97, .int .u8 110, .int .u8 121, .int .u8 32, .int .u8 115, .int .u8 116, .int .u8 114, .int .u8 105, .int .u8 112, .int .u8 101, .int .u8 32, .int .u8 116, .int .u8 104, .int .u8 97, .int .u8 116, .int .u8 32, .int .u8 116, .int .u8 104, .int .u8 101, .int .u8 114, .int .u8 101, .int .u8 32, .int .u8 105, .int .u8 115] 5 (57, 58))) := Lib.run_convert_bytes_const V 24 5 _ 57 57 Try.underlying24 Try.underlying5
  go_enter Try.func18, Try.ntmps18
  go_wp2_with (first
    | (go_at_call 34; with_reducible refine (HC.out).mono ?_; rintro e w1 ⟨d, rfl, q0, q1, HW⟩)
    | (go_at_call 21; with_reducible refine (HW.out).mono ?_; rintro e w2 ⟨⟨r2, rfl⟩, q2, HI⟩))
  all_goals go_ret
  all_goals exact ⟨rfl, d, HI.out⟩
end Go.Proofs.Ytlfcgldbgejfbaa

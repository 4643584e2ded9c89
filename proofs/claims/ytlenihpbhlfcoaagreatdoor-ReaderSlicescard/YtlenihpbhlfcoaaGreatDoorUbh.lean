import Derived.Test.YtlenihpbhlfcoaaGreatDoorUbg
set_option maxHeartbeats 8000000
set_option maxRecDepth 100000
set_option linter.unusedSimpArgs false
set_option linter.unusedVariables false
namespace Go.Proofs.YtlenihpbhlfcoaaGreatDoor
open Go.RowKit
variable {rb : Nat} {va : Option Addr} {vc : Nat} {b : List By}
theorem frame23 (p0 p1 v : Value) : (#[p0, p1] ++ (Array.replicate 21 undef).setIfInBounds 3 v : Array Value) = #[p0, p1, undef, undef, undef, v, undef, undef, undef, undef, undef, undef, undef, undef, undef, undef, undef, undef, undef, undef, undef, undef, undef] := by
 apply Array.toList_inj.1
 simp [List.replicate]
theorem qcatch_idle (x y : Addr) (w : World) :
  CallsD Tryz.prog 25 #[.pointer (some x), .pointer (some y)] .returning w fun e u' w' => e = .returned (.tuple #[]) ∧ u' = .returning ∧ w' = w := by
 refine callsD_of_wpS Tryz.func25 rfl fun c₀ cs hu => ?_
 apply wpS_seq
 apply wpS_region
 simp [wpOpsS, go_sem, recoverD, hu, Tryz.ntmps25, Exit.thenS];rw [frame23];refine wpS_of_wp ?_
 go_wp2_with fail
 cases c₀;simp_all [bodyPostS, results, Tryz.results25]
theorem qcatch_fault (bb eb : Nat) (a E : Int) (older : _) (w : World) (q : Nat) (vG : Value) (T : TypeId) (hr : w.heap[rb]? = some (.cells #[.slice va b.length vc, .int .i64 (q : Nat), vG, .int .i64 0] 51)) (hb : w.heap[bb]? = some (.cells #[.pointer (some ⟨rb, 0, none⟩)] T)) (he : w.heap[eb]? = some (.cells #[.int .i64 0] 25)) (hne : rb ≠ bb ∧ rb ≠ eb ∧ bb ≠ eb) :
  CallsD Tryz.prog 25 #[.pointer (some ⟨bb, 0, none⟩), .pointer (some ⟨eb, 0, none⟩)] (.panicking ({ v := .iface 67 (.agg #[.int .i64 a, .int .i64 E]), recovered := false } :: older)) w fun e u' w' => e = .returned (.tuple #[]) ∧ u' = .panicking ({ v := .iface 67 (.agg #[.int .i64 a, .int .i64 E]), recovered := true } :: older) ∧ Fr (fun k => k = rb ∨ k = eb) w w' ∧ w'.heap[rb]? = some (.cells #[.slice va b.length vc, .int .i64 a, vG, .int .i64 E] 51) ∧ w'.heap[eb]? = some (.cells #[.int .i64 E] 25) := by
 refine callsD_of_wpS Tryz.func25 rfl fun c₀ cs hu => ?_
 apply wpS_seq
 apply wpS_region
 simp [wpOpsS, go_sem, recoverD, hu, Tryz.ntmps25, Exit.thenS];have hta : ∀ (v : Value) (w : World), (Instr.typeAssert (.iface 67 v) 20 67 true).run Tryz.prog w = .ok (.tuple #[v, .bool true]) w := fun v w => by kernel_rfl
 have heq : ∀ (v : Value) (w : World), (binOp BinOp.eql 20 (.iface 67 v) .nilIface).run Tryz.prog w = .ok (.bool false) w := fun v w => by kernel_rfl
 rw [frame23];refine wpS_of_wp ?_;go_upto_region 6 with fail;obtain ⟨W1, hW1⟩ : ∃ W1, (w.alloc (.cells #[.int .i64 0, .int .i64 0] 67)).setRow w.heap.size #[.int .i64 a, .int .i64 E] = W1 := ⟨_, rfl⟩;have n1 : Nw w W1 := by rw [← hW1]; exact ((Fr.refl _ _).alloc _).setRow _ _ (.inr (Nat.le_refl _))
 have rf : W1.heap[w.heap.size]? = some (.cells #[.int .i64 a, .int .i64 E] 67) := by rw [← hW1]; exact setRow_heap _ _ _ _ 67 _ (newHeap _ _)
 have HR := tHid (Nw.heap n1 hr);have HE := tHid (Nw.heap n1 he);have HN := tHid n1;have HW1 := tHid hW1;have f0 : W1.cell? ⟨w.heap.size, 0, none⟩ = some (.int .i64 a) := cell_of rf 0 _ rfl;have f1 : W1.cell? ⟨w.heap.size, 1, none⟩ = some (.int .i64 E) := cell_of rf 1 _ rfl;have cb : W1.cell? ⟨bb, 0, none⟩ = some (.pointer (some ⟨rb, 0, none⟩)) := cell_of (Nw.heap n1 hb) 0 _ rfl;have r1 : W1.cell? ⟨rb, 1, none⟩ = some (.int .i64 (q : Nat)) := cell_of HR.out 1 _ rfl;have r3 : W1.cell? ⟨rb, 3, none⟩ = some (.int .i64 0) := cell_of HR.out 3 _ rfl;have z1 := frz_of HR.out 1
 have z3 := frz_of HR.out 3;have hlr : rb < w.heap.size := (Array.getElem?_eq_some_iff.1 hr).1;have hlr2 : rb ≠ w.heap.size := by omega
 obtain ⟨hn1, hn2, hn3⟩ := hne;have e0 : W1.cell? ⟨eb, 0, none⟩ = some (.int .i64 0) := cell_of HE.out 0 _ rfl;have ez := frz_of HE.out 0;have HEND : Hid (∀ F, F = (((W1.setCell ⟨rb, 1, none⟩ (.int .i64 a)).setCell ⟨rb, 3, none⟩ (.int .i64 E)).drew.setCell ⟨eb, 0, none⟩ (.int .i64 E)) → Fr (fun k => k = rb ∨ k = eb) w F ∧ F.heap[rb]? = some (.cells #[.slice va b.length vc, .int .i64 a, vG, .int .i64 E] 51) ∧ F.heap[eb]? = some (.cells #[.int .i64 E] 25)) := fun F hF => by
  subst hF;have g1 : (W1.setCell ⟨rb, 1, none⟩ (.int .i64 a)).heap[rb]? = some (.cells #[.slice va b.length vc, .int .i64 a, vG, .int .i64 0] 51) := row_setN HR.out 1 _;have g2 : ((W1.setCell ⟨rb, 1, none⟩ (.int .i64 a)).setCell ⟨rb, 3, none⟩ (.int .i64 E)).heap[rb]? = some (.cells #[.slice va b.length vc, .int .i64 a, vG, .int .i64 E] 51) := row_setN g1 3 _;have g3 : ((W1.setCell ⟨rb, 1, none⟩ (.int .i64 a)).setCell ⟨rb, 3, none⟩ (.int .i64 E)).drew.heap[rb]? = some (.cells #[.slice va b.length vc, .int .i64 a, vG, .int .i64 E] 51) := g2
  have qa : Fr (fun k => k = rb) W1 (W1.setCell ⟨rb, 1, none⟩ (.int .i64 a)) := (Fr.refl _ _).setCell _ _ (.inl rfl);have qb : Fr (fun k => k = rb) W1 ((W1.setCell ⟨rb, 1, none⟩ (.int .i64 a)).setCell ⟨rb, 3, none⟩ (.int .i64 E)) := qa.setCell _ _ (.inl rfl);have q1 : Fr (fun k => k = rb) W1 ((W1.setCell ⟨rb, 1, none⟩ (.int .i64 a)).setCell ⟨rb, 3, none⟩ (.int .i64 E)).drew := qb.drew;have g4 : ((W1.setCell ⟨rb, 1, none⟩ (.int .i64 a)).setCell ⟨rb, 3, none⟩ (.int .i64 E)).drew.heap[eb]? = some (.cells #[.int .i64 0] 25) := cell_kept q1 HE.out (fun h => hn2 h.symm)
  have q2 : Fr (fun k => k = eb) ((W1.setCell ⟨rb, 1, none⟩ (.int .i64 a)).setCell ⟨rb, 3, none⟩ (.int .i64 E)).drew (((W1.setCell ⟨rb, 1, none⟩ (.int .i64 a)).setCell ⟨rb, 3, none⟩ (.int .i64 E)).drew.setCell ⟨eb, 0, none⟩ (.int .i64 E)) := (Fr.refl _ _).setCell _ _ (.inl rfl);exact ⟨(HN.out.any.trans (q1.mono (fun i hi => .inl (.inl hi)))).trans (q2.mono (fun i hi => .inl (.inr hi))), cell_kept q2 g3 hn2, row_setN g4 0 _⟩
 clear hW1 rf n1 hr hb he;go_upto_region 7 with (first
  | (refine wpList_store_row rfl 67 _ _ rfl w.heap.size #[.int .i64 a, .int .i64 E] (by first | rfl | simp [Act.eval]) (by first | rfl | simp [Act.eval]) 67 _ (newHeap w _) (by kernel_rfl) rfl (by simp [Value.oneCell']) ?_; rw [HW1.out]))
 go_region
 all_goals go_wp2_with fail
 all_goals (
  have HX := HEND.out _ rfl;cases c₀;simp_all [bodyPostS, results, Tryz.results25];exact HX)
end Go.Proofs.YtlenihpbhlfcoaaGreatDoor

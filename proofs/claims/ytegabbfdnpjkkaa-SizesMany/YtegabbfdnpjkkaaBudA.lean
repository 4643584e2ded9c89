import Derived.Test.YtegabbfdnpjkkaaProg
import Derived.Conc.MuLone
import Derived.WalkKit
import Derived.WalkLawsBesides
import Derived.WalkSpells
import Derived.Deep.QuietTactic
import Derived.BigQuiet
import Derived.KernelRfl
namespace Go.Proofs.Ytegabbfdnpjkkaa
open Go.RowKit Go.MuLone
set_option linter.unusedVariables false

abbrev Try.muLink : Go.Conc.Locks.MuLink := { lock := 35, unlock := 36, ilock := 46, iunlock := 47, lockSlow := 58, unlockSlow := 61, disable := 54, enable := 56, acquire := 57, relMerge := 59, cas32 := 55, add32 := 60, tMutex := 71, tIMutex := 69, tPMutex := 77, tPIMutex := 82, tPI32 := 84, tUP := 86, tNoCopy := 66, tU32 := 67 }
theorem Try.muLib : Go.Conc.Locks.MuLib Try.prog Try.muLink :=
  ⟨Try.func35, Try.func36, Try.func46, Try.func47, Try.func54, Try.func56, Try.func57, Try.func59, Try.func55, Try.func60, Try.underlying69, Try.runUnderlying69, Try.sizeOf69, Try.isAgg69, Try.zeroValue69, Try.underlying71, Try.runUnderlying71, Try.sizeOf71, Try.isAgg71, Try.zeroValue71, Try.underlying77, Try.runUnderlying77, Try.sizeOf77, Try.isAgg77, Try.zeroValue77, Try.underlying82, Try.runUnderlying82, Try.sizeOf82, Try.isAgg82, Try.zeroValue82, Try.underlying84, Try.runUnderlying84, Try.sizeOf84, Try.isAgg84, Try.zeroValue84, Try.underlying86, Try.runUnderlying86, Try.sizeOf86, Try.isAgg86, Try.zeroValue86, Try.underlying66, Try.runUnderlying66, Try.sizeOf66, Try.isAgg66, Try.zeroValue66, Try.underlying21, Try.runUnderlying21, Try.sizeOf21, Try.isAgg21, Try.zeroValue21, (by kernel_rfl)⟩

/-! ### A budget in memory -/
/-- Block b is a budget of T, of which S is spent; its lock is free. -/
def BudB (b : Nat) (T S : Int) (w : World) : Prop := w.heap[b]? = some (.cells #[.int .i32 0, .int .u32 0, .int .i64 T, .int .i64 S] 73)
/-- Block b is the document's budget. -/
def RefB (b : Nat) (T S : Int) (w : World) : Prop := w.heap[b]? = some (.cells #[.int .i64 T, .int .i64 S] 32)
/-- Only block b may have turned. -/
structure Only (b : Nat) (w w' : World) : Prop where
  os : w'.os = w.os
  tape : w'.tape = w.tape
  output : w'.output = w.output
  size : w'.heap.size = w.heap.size
  block : ∀ k, k ≠ b → w'.heap[k]? = w.heap[k]?
theorem Only.refl (b : Nat) (w : World) : Only b w w := ⟨rfl, rfl, rfl, rfl, fun _ _ => rfl⟩
theorem Only.drewN (b n : Nat) (w : World) : Only b w (w.drewN n) := ⟨rfl, rfl, rfl, rfl, fun _ _ => rfl⟩
theorem Only.drew (b : Nat) (w : World) : Only b w w.drew := ⟨rfl, rfl, rfl, rfl, fun _ _ => rfl⟩
theorem Only.trans {b : Nat} {w1 w2 w3 : World} (h : Only b w1 w2) (k : Only b w2 w3) : Only b w1 w3 := ⟨k.os.trans h.os, k.tape.trans h.tape, k.output.trans h.output, k.size.trans h.size, fun i hi => (k.block i hi).trans (h.block i hi)⟩
theorem Only.setCell (b o : Nat) (v : Value) (w : World) : Only b w (w.setCell ⟨b, o, none⟩ v) :=
  ⟨rfl, rfl, rfl, by simp, fun k hk => Below.heap_setCell _ _ _ _ hk⟩
theorem heap_set_same {w : World} {b o : Nat} {c : Array Value} {e : TypeId} {f : Nat × Nat} (v : Value) (h : w.heap[b]? = some (.cells c e f)) : (w.setCell ⟨b, o, none⟩ v).heap[b]? = some (.cells (c.setIfInBounds o v) e f) := by
  simp only [World.setCell, Array.getElem?_modify, h]
  simp
theorem BudB.cell {b : Nat} {T S : Int} {w : World} (h : BudB b T S w) : w.cell? ⟨b, 0, none⟩ = some (.int .i32 0) ∧ w.cell? ⟨b, 1, none⟩ = some (.int .u32 0) ∧ w.cell? ⟨b, 2, none⟩ = some (.int .i64 T) ∧ w.cell? ⟨b, 3, none⟩ = some (.int .i64 S) ∧ ∀ o, w.frozen? ⟨b, o, none⟩ = false := by
  unfold BudB at h
  refine ⟨?_, ?_, ?_, ?_, fun o => ?_⟩ <;> simp [World.cell?, World.frozen?, h]
theorem RefB.cell {b : Nat} {T S : Int} {w : World} (h : RefB b T S w) : w.cell? ⟨b, 0, none⟩ = some (.int .i64 T) ∧ w.cell? ⟨b, 1, none⟩ = some (.int .i64 S) ∧ ∀ o, w.frozen? ⟨b, o, none⟩ = false := by
  unfold RefB at h
  refine ⟨?_, ?_, fun o => ?_⟩ <;> simp [World.cell?, World.frozen?, h]
theorem BudB.kept {b k : Nat} {T S : Int} {w w' : World} (h : BudB b T S w) (o : Only k w w') (hk : b ≠ k) : BudB b T S w' := (o.block b hk).trans h
theorem RefB.kept {b k : Nat} {T S : Int} {w w' : World} (h : RefB b T S w) (o : Only k w w') (hk : b ≠ k) : RefB b T S w' := (o.block b hk).trans h
/-- The lock taken and given back. -/
theorem bud_look {b : Nat} {T S : Int} {w : World} (h : BudB b T S w) (n : Nat) : BudB b T S (((w.setCell ⟨b, 0, none⟩ (.int .i32 1)).drewN n).setCell ⟨b, 0, none⟩ (.int .i32 0)) ∧ Only b w (((w.setCell ⟨b, 0, none⟩ (.int .i32 1)).drewN n).setCell ⟨b, 0, none⟩ (.int .i32 0)) :=
  ⟨heap_set_same (.int .i32 0) (show ((w.setCell ⟨b, 0, none⟩ (.int .i32 1)).drewN n).heap[b]? = _ from heap_set_same (.int .i32 1) h), ((Only.setCell _ _ _ _).trans (Only.drewN _ _ _)).trans (Only.setCell _ _ _ _)⟩
theorem bud_put {b : Nat} {T S : Int} {w : World} (h : BudB b T S w) (n : Nat) (S' : Int) : BudB b T S' ((((w.setCell ⟨b, 0, none⟩ (.int .i32 1)).drewN n).setCell ⟨b, 3, none⟩ (.int .i64 S')).setCell ⟨b, 0, none⟩ (.int .i32 0)) ∧ Only b w ((((w.setCell ⟨b, 0, none⟩ (.int .i32 1)).drewN n).setCell ⟨b, 3, none⟩ (.int .i64 S')).setCell ⟨b, 0, none⟩ (.int .i32 0)) :=
  ⟨heap_set_same (.int .i32 0) (heap_set_same (.int .i64 S') (show ((w.setCell ⟨b, 0, none⟩ (.int .i32 1)).drewN n).heap[b]? = _ from heap_set_same (.int .i32 1) h)), (((Only.setCell _ _ _ _).trans (Only.drewN _ _ _)).trans (Only.setCell _ _ _ _)).trans (Only.setCell _ _ _ _)⟩

set_option maxHeartbeats 1000000 in
theorem spent_any (b : Nat) (T S : Int) (w : World) (h : BudB b T S w) :
    Calls Try.prog 20 #[.pointer (some ⟨b, 0, none⟩)] w fun e w' => e = .returned (.int .i64 S) ∧ BudB b T S w' ∧ Only b w w' := by
  obtain ⟨c0, c1, c2, c3, fz⟩ := h.cell
  have f0 := fz 0
  go_enter_defers Try.func20, Try.ntmps20
  go_wp2_with (go_at_call 35; refine (lock_free Try.muLib ⟨b, 0, none⟩ _ c0 f0).mono ?_; rintro e w' ⟨rfl, rfl⟩)
  refine leaves_cons (f := 36) (args := #[.pointer (some ⟨b, 0, none⟩)]) (by simp) (by simp [go_sem]) ?_
  refine (unlock_deferred Try.muLib ⟨b, 0, none⟩ .returning _ ?_ ?_).mono ?_
  · exact World.cell?_setCell_same w ⟨b, 0, none⟩ (.int .i32 1) c0
  · simp [f0]
  rintro e u' w'' ⟨rfl, rfl, rfl⟩
  exact ⟨_, results_tmp rfl _ _ _, rfl, bud_look h 0⟩

end Go.Proofs.Ytegabbfdnpjkkaa

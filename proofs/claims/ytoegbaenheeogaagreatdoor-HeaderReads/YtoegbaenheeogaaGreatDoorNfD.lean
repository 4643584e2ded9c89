import Derived.Test.YtoegbaenheeogaaGreatDoorNfC
import Derived.Lib.AsciiSet
import Derived.Laws.ResultCell
import Derived.Deep.WholeRow
import Derived.Lib.Strings
namespace Go.Proofs.YtoegbaenheeogaaGreatDoor
open Go.RowKit
set_option linter.unusedVariables false
def AS : Array Value := Lib.setCells [32, 0]
theorem as_size : AS.size = 256 := Lib.setCells_size _
theorem q_as : ∀ (x : By), ((UInt8.ofBitVec x == 32) || (UInt8.ofBitVec x == 0)) = decide (x = 32#8 ∨ x = 0#8) := by decide +kernel
theorem as_at (x : By) : AS[x.toNat]? = some (.bool (isBz x)) := by
  unfold AS
  have h := Lib.setCells_at [32, 0] (UInt8.ofBitVec x)
  have e : (UInt8.ofBitVec x).toNat = x.toNat := rfl
  rw [e] at h
  rw [h, List.contains_cons, List.contains_cons, List.contains_nil, Bool.or_false, q_as]
  rfl
theorem newHeap (w : World) (o : Obj) : (w.alloc o).heap[w.heap.size]? = some o := by
  show (w.heap.push o)[w.heap.size]? = some o
  simp
theorem as_one : AS.all (·.oneCell') = true := Lib.setCells_one _
theorem as_info : (Tryz.prog.info? 110).map (·.size) = some AS.size := by rw [as_size]; kernel_rfl
/-- The zero of the set, by a name of our own (for a seat whose load gives it none). -/
def zAs : Array Value := Lib.setCells ([] : List UInt8)
theorem zeroAs (w : World) : (zeroValue 110).run Tryz.prog w = .ok (.agg zAs) w := (zero_of_info (P := Tryz.prog) (t := 110) (v := .agg (Array.replicate 256 (.bool false))) (n := 256) (by kernel_rfl)).1 w
theorem zc53 : Tryz.zeroCells110 = Lib.setCells ([] : List UInt8) := by
  kernel_rfl
set_option maxHeartbeats 4000000 in
set_option maxRecDepth 100000 in
theorem mkAscii_any (w : World) : Calls Tryz.prog 71 #[.string ⟨#[32, 0]⟩] w fun e w' => e = .returned (.tuple #[.agg AS, .bool true]) ∧ w' = w.alloc (.cells AS 110) := by
  obtain ⟨P, hP⟩ : ∃ P : Ending → World → Prop, P = fun e w' => e = .returned (.tuple #[.agg AS, .bool true]) ∧ w' = w.alloc (.cells AS 110) := ⟨_, rfl⟩
  rw [← hP]
  have HF : Hid (P (.returned (.tuple #[.agg AS, .bool true])) (w.alloc (.cells AS 110))) := by rw [hP]; exact ⟨rfl, rfl⟩
  clear hP
  obtain ⟨cs, hcs⟩ : ∃ cs : ByteArray, cs = ⟨#[32, 0]⟩ := ⟨_, rfl⟩
  rw [← hcs]
  have hsz : cs.size = 2 := by rw [hcs]; rfl
  have e0 : ∀ h, (cs[0]'h).toNat = 32 := by subst hcs; intro h; rfl
  have e1 : ∀ h, (cs[1]'h).toNat = 0 := by subst hcs; intro h; rfl
  clear hcs
  skip
  go_enter Tryz.func71, Tryz.ntmps71
  go_wp2
  rw [zc53]
  go_loopg [4] 2 (fun g s4 wx => ∃ i : Nat, i + g = 2 ∧ s4 = .int .i64 i ∧ wx = w.alloc (.cells (Lib.setCells (([32, 0] : List UInt8).take i)) 110))
  case atStart => exact ⟨0, by omega, rfl, rfl⟩
  case round =>
    obtain ⟨i, hig, rfl, rfl⟩ := hrel
    cases gk with
    | zero =>
      obtain rfl : i = 2 := by omega
      have hAS : Lib.setCells (([32, 0] : List UInt8).take 2) = AS := rfl
      rw [hAS]
      have hld := run_loadVar_new (P := Tryz.prog) w 110 AS 256 4 Tryz.underlying110 as_info
      go_wp2_with (first
        | (refine wpList_load_row rfl 110 _ rfl w.heap.size (by first | rfl | simp [Act.eval]) 110 AS (0, 0) _ (newHeap w _) Tryz.underlying110 rfl as_info ?_)
        | (refine wpList_store_row rfl 110 _ _ rfl w.heap.size AS (by first | rfl | simp [Act.eval]) (by first | rfl | simp [Act.eval]) 110 AS (newHeap w _) as_info rfl as_one ?_; rw [World.setRow_alloc_new]))
      (try simp only [Exit.inBlock, Exit.then])
      refine bodyPost_ret (v := .tuple #[.agg AS, .bool true]) ?_ rfl HF.out
      rw [results_cell_tmp rfl]
      simp [asAddr, Result.andThen, hld]
    | succ g =>
      have hi : i = 0 ∨ i = 1 := by omega
      rcases hi with rfl | rfl
      · have hcell : (Lib.setCells (([32, 0] : List UInt8).take 0))[32]? = some (.bool false) := Lib.setCells_at [] 32
        generalize hC : Lib.setCells (([32, 0] : List UInt8).take 0) = C at *
        have HC : Hid (C.setIfInBounds 32 (.bool true) = Lib.setCells (([32, 0] : List UInt8).take 1)) := by rw [← hC]; rfl
        clear hC
        go_wp2
        go_roundg g
        case measure => omega
        case rel => exact ⟨1, by omega, by first | rfl | simp, by rw [HC.out]⟩
      · have hcell : (Lib.setCells (([32, 0] : List UInt8).take 1))[0]? = some (.bool false) := Lib.setCells_at [32] 0
        generalize hC : Lib.setCells (([32, 0] : List UInt8).take 1) = C at *
        have HC : Hid (C.setIfInBounds 0 (.bool true) = Lib.setCells (([32, 0] : List UInt8).take 2)) := by rw [← hC]; rfl
        clear hC
        go_wp2
        go_roundg g
        case measure => omega
        case rel => exact ⟨2, by omega, by first | rfl | simp, by rw [HC.out]⟩
set_option maxHeartbeats 2000000 in
set_option maxRecDepth 100000 in
theorem asciiHas_any (b : Nat) (x : By) (w : World) (hw : w.heap[b]? = some (.cells AS 110)) :
    Calls Tryz.prog 89 #[.pointer (some ⟨b, 0, none⟩), .int .u8 x.toNat] w fun e w' => e = .returned (.bool (isBz x)) ∧ w = w' := by
  obtain ⟨P, hP⟩ : ∃ P : Ending → World → Prop, P = fun e w' => e = .returned (.bool (isBz x)) ∧ w = w' := ⟨_, rfl⟩
  rw [← hP]
  have HF : Hid (P (.returned (.bool (isBz x))) w) := by rw [hP]; exact ⟨rfl, rfl⟩
  clear hP
  have hc : w.cell? ⟨b, x.toNat, none⟩ = some (.bool (isBz x)) := by
    have := as_at x
    simp only [World.cell?, hw]
    simpa using this
  have hx256 : (x.toNat : Int) < 256 := by have := x.isLt; omega
  clear hw
  generalize isBz x = v at *
  generalize x.toNat = y at *
  go_enter Tryz.func89, Tryz.ntmps89
  go_wp2
  exact HF.out
end Go.Proofs.YtoegbaenheeogaaGreatDoor

import Derived.Test.YtcogkhcfpgelhabGreatWxat
import Derived.BigRegion
import Derived.Great.BuildSlice
import Derived.Laws.Tables
import Derived.Carry
namespace Go.Proofs.YtcogkhcfpgelhabGreat
open Go.RowKit
set_option linter.unusedVariables false
set_option maxRecDepth 100000
abbrev opZ : Array Value := #[.int .i64 0, .bool false, .int .i64 0, .string ⟨#[]⟩, .int .i64 0, .int .i64 0, .string ⟨#[]⟩, .string ⟨#[]⟩, .int .u32 0, .int .u32 0, .int .u32 0, .int .i64 0, .int .i32 0, .int .i64 0, .int .i64 0, .slice none 0 0, .int .i64 0, .int .i64 0, .int .i64 0, .slice none 0 0]
abbrev acZ : Array Value := #[.int .i64 0, .int .i64 0, .string ⟨#[]⟩, .int .i64 0, .int .i64 0, .string ⟨#[]⟩, .int .i64 0, .int .i64 0]
theorem op_one (y : Oq) : (opC y).all (·.oneCell') = true := by simp [Value.oneCell']
theorem op_info (y : Oq) : (Tryz.prog.info? 40).map (·.size) = some (opC y).size := by show _ = some 20; kernel_rfl
theorem ac_one (x : Ac) : (RAc.enc x).toArray.all (·.oneCell') = true := by simp [RAc, Value.oneCell']
theorem ac_info (x : Ac) : (Tryz.prog.info? 51).map (·.size) = some (RAc.enc x).length := by show _ = some 8; kernel_rfl
theorem ac_cells {g : Nat} {x : Ac} {w : World} (h : w.heap[g]? = some (.cells (RAc.enc x).toArray 51)) : w.cell? ⟨g, 0, none⟩ = some (.int .i64 x.op) ∧ w.cell? ⟨g, 1, none⟩ = some (.int .i64 x.dir) ∧ w.cell? ⟨g, 2, none⟩ = some (.string (mk x.name)) ∧ w.cell? ⟨g, 3, none⟩ = some (.int .i64 x.node) ∧ w.cell? ⟨g, 4, none⟩ = some (.int .i64 x.too) ∧ w.cell? ⟨g, 5, none⟩ = some (.string (mk x.other)) ∧ w.cell? ⟨g, 6, none⟩ = some (.int .i64 x.pl) ∧ w.cell? ⟨g, 7, none⟩ = some (.int .i64 x.n) :=
  ⟨(rc h 0 _ rfl).1, (rc h 1 _ rfl).1, (rc h 2 _ rfl).1, (rc h 3 _ rfl).1, (rc h 4 _ rfl).1, (rc h 5 _ rfl).1, (rc h 6 _ rfl).1, (rc h 7 _ rfl).1⟩
abbrev mtL (m : Mt) : List Value := [.int .u32 m.mode, .int .u32 m.uid, .int .u32 m.gid, .int .i64 m.time, .int .i32 m.nano]
theorem op_meta {g : Nat} {y : Oq} {w : World} (h : w.heap[g]? = some (.cells (opC y) 40)) : w.rangeAt g 8 (mtL y.mt) := fun j v hv => by
  match j, hv with
  | 0, hv => injection hv with e; subst e; exact (rc h 8 _ rfl).1
  | 1, hv => injection hv with e; subst e; exact (rc h 9 _ rfl).1
  | 2, hv => injection hv with e; subst e; exact (rc h 10 _ rfl).1
  | 3, hv => injection hv with e; subst e; exact (rc h 11 _ rfl).1
  | 4, hv => injection hv with e; subst e; exact (rc h 12 _ rfl).1
  | n + 5, hv => simp [mtL] at hv
theorem op_cells {g : Nat} {y : Oq} {w : World} (h : w.heap[g]? = some (.cells (opC y) 40)) : w.cell? ⟨g, 7, none⟩ = some (.string (mk y.tgt)) ∧ w.cell? ⟨g, 15, none⟩ = some (.slice y.bs.a y.bs.n y.bs.c) := ⟨(rc h 7 _ rfl).1, (rc h 15 _ rfl).1⟩
theorem mt_info (m : Mt) : (Tryz.prog.info? 37).map (·.size) = some (mtL m).length := by show _ = some 5; kernel_rfl
theorem op_built (x : Ac) (y : Oq) : Tryz.prog.built 40 [(0, .int .i64 x.op), (2, .int .i64 x.dir), (3, .string (mk x.name)), (4, .int .i64 x.node), (5, .int .i64 x.too), (6, .string (mk x.other)), (9, .int .i64 x.pl), (10, .int .i64 x.n), (7, .string (mk y.tgt)), (8, .agg (mtL y.mt).toArray), (11, .slice y.bs.a y.bs.n y.bs.c)] = some (opC (agO x y)) := by kernel_rfl
end Go.Proofs.YtcogkhcfpgelhabGreat

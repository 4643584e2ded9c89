import Derived.Test.YtoegbaenheeogaaLzOp
import Derived.Test.YtoegbaenheeogaaIsB2
import Derived.Test.YtoegbaenheeogaaNhA
namespace Go.Proofs.Ytoegbaenheeogaa
open Go.ChangeShapes Go.WideShapes Go.ChangeAt Go.RowKit Go.Deep
set_option linter.unusedVariables false
/-! ### A header that came in -/
theorem cellsHd : Try.prog.cellsOf 23 = 14 := by kernel_rfl
theorem cells9h : Try.prog.cellsOf 9 = 1 := by kernel_rfl
theorem cells2h : Try.prog.cellsOf 2 = 1 := by kernel_rfl
theorem cells3h : Try.prog.cellsOf 3 = 1 := by kernel_rfl
theorem cells5h : Try.prog.cellsOf 5 = 1 := by kernel_rfl
theorem fourteen (cs : Array Value) (h : cs.size = 14) : ∃ u0 u1 u2 u3 u4 u5 u6 u7 u8 u9 u10 u11 u12 u13, cs = #[u0, u1, u2, u3, u4, u5, u6, u7, u8, u9, u10, u11, u12, u13] := by
  obtain ⟨l⟩ := cs
  match l, h with
  | [u0, u1, u2, u3, u4, u5, u6, u7, u8, u9, u10, u11, u12, u13], _ => exact ⟨u0, u1, u2, u3, u4, u5, u6, u7, u8, u9, u10, u11, u12, u13, rfl⟩
theorem fourteenL {α : Type} (l : List α) (h : l.length = 14) : ∃ u0 u1 u2 u3 u4 u5 u6 u7 u8 u9 u10 u11 u12 u13, l = [u0, u1, u2, u3, u4, u5, u6, u7, u8, u9, u10, u11, u12, u13] := by
  match l, h with
  | [u0, u1, u2, u3, u4, u5, u6, u7, u8, u9, u10, u11, u12, u13], _ => exact ⟨u0, u1, u2, u3, u4, u5, u6, u7, u8, u9, u10, u11, u12, u13, rfl⟩
theorem byte_ofH {fl : Int} (w4 : (Lit.int .u8 fl).wf = true) : (Value.int .u8 fl) = .int .u8 ((BitVec.ofNat 8 fl.toNat).toNat : Nat) := by
  have hb : 0 ≤ fl ∧ fl ≤ 255 := by simp [Lit.wf, IntKind.min, IntKind.max, IntKind.signed, IntKind.bits] at w4; omega
  rw [BitVec.toNat_ofNat]
  congr 1
  omega
theorem i64_ofH {z : Int} (w : (Lit.int .i64 z).wf = true) : i64 z := by
  simp [Lit.wf, IntKind.min, IntKind.max, IntKind.signed, IntKind.bits] at w
  exact ⟨by omega, by omega⟩
theorem openedH0 {H : Type} {enc : TypeId × Value → H} {W : World} {cs : Array Value} {d : DataW H} {p : List MemPlace} (hcs : cs.size = Try.prog.cellsOf 23) (h : DataW.Trod enc Try.prog W 0 (fun _ => true) true 23 (.agg cs) d p) :
    ∃ m : Hr, cs = m.C ∧ (i64 m.form ∧ i64 m.mode ∧ i64 m.uid ∧ i64 m.gid ∧ i64 m.size ∧ i64 m.time ∧ i64 m.major ∧ i64 m.minor) ∧ ∃ y0 y3 y4 y5 y6 y7 y8 y12 y13, d = .agg [y0, .lit (.string m.name.data.toList), .lit (.string m.pfx.data.toList), y3, y4, y5, y6, y7, y8, .lit (.string m.link.data.toList), .lit (.string m.user.data.toList), .lit (.string m.group.data.toList), y12, y13] := by
  obtain ⟨fuel, hf0⟩ := h
  obtain ⟨xs, kf, hk', hxy, _, hxl, hf⟩ := DataW.trod_struct Try.underlying23 hf0
  rw [cellsHd] at hcs
  obtain ⟨u0, u1, u2, u3, u4, u5, u6, u7, u8, u9, u10, u11, u12, u13, rfl⟩ := fourteen cs hcs
  obtain ⟨y0, y1, y2, y3, y4, y5, y6, y7, y8, y9, y10, y11, y12, y13, rfl⟩ := fourteenL xs hxl
  have g0 := hf 0 _ rfl
  have g1 := hf 1 _ rfl
  have g2 := hf 2 _ rfl
  have g3 := hf 3 _ rfl
  have g4 := hf 4 _ rfl
  have g5 := hf 5 _ rfl
  have g6 := hf 6 _ rfl
  have g7 := hf 7 _ rfl
  have g8 := hf 8 _ rfl
  have g9 := hf 9 _ rfl
  have g10 := hf 10 _ rfl
  have g11 := hf 11 _ rfl
  have g12 := hf 12 _ rfl
  have g13 := hf 13 _ rfl
  simp [Value.cells, cells9h, cells2h, cells3h, cells5h] at g0 g1 g2 g3 g4 g5 g6 g7 g8 g9 g10 g11 g12 g13
  obtain ⟨z0, e0, _, w0⟩ := DataW.trod_int Try.underlying3 g0
  obtain ⟨z1, e1, x1, _⟩ := DataW.trod_string Try.underlying9 g1
  obtain ⟨z2, e2, x2, _⟩ := DataW.trod_string Try.underlying9 g2
  obtain ⟨z3, e3, _, w3⟩ := DataW.trod_int Try.underlying2 g3
  obtain ⟨z4, e4, _, w4⟩ := DataW.trod_int Try.underlying2 g4
  obtain ⟨z5, e5, _, w5⟩ := DataW.trod_int Try.underlying2 g5
  obtain ⟨z6, e6, _, w6⟩ := DataW.trod_int Try.underlying2 g6
  obtain ⟨z7, e7, _, w7⟩ := DataW.trod_int Try.underlying2 g7
  obtain ⟨z8, e8, _, w8⟩ := DataW.trod_int Try.underlying5 g8
  obtain ⟨z9, e9, x9, _⟩ := DataW.trod_string Try.underlying9 g9
  obtain ⟨z10, e10, x10, _⟩ := DataW.trod_string Try.underlying9 g10
  obtain ⟨z11, e11, x11, _⟩ := DataW.trod_string Try.underlying9 g11
  obtain ⟨z12, e12, _, w12⟩ := DataW.trod_int Try.underlying2 g12
  obtain ⟨z13, e13, _, w13⟩ := DataW.trod_int Try.underlying2 g13
  obtain rfl : u0 = .int .i64 z0 := by simpa using e0
  obtain rfl : u1 = .string z1 := by simpa using e1
  obtain rfl : u2 = .string z2 := by simpa using e2
  obtain rfl : u3 = .int .i64 z3 := by simpa using e3
  obtain rfl : u4 = .int .i64 z4 := by simpa using e4
  obtain rfl : u5 = .int .i64 z5 := by simpa using e5
  obtain rfl : u6 = .int .i64 z6 := by simpa using e6
  obtain rfl : u7 = .int .i64 z7 := by simpa using e7
  obtain rfl : u8 = .int .u8 z8 := by simpa using e8
  obtain rfl : u9 = .string z9 := by simpa using e9
  obtain rfl : u10 = .string z10 := by simpa using e10
  obtain rfl : u11 = .string z11 := by simpa using e11
  obtain rfl : u12 = .int .i64 z12 := by simpa using e12
  obtain rfl : u13 = .int .i64 z13 := by simpa using e13
  have hd : d = .agg [y0.1, y1.1, y2.1, y3.1, y4.1, y5.1, y6.1, y7.1, y8.1, y9.1, y10.1, y11.1, y12.1, y13.1] := (Prod.ext_iff.1 hxy).1
  refine ⟨⟨z0, z1, z2, z3, z4, z5, z6, z7, BitVec.ofNat 8 z8.toNat, z9, z10, z11, z12, z13⟩, ?_, ⟨i64_ofH w0, i64_ofH w3, i64_ofH w4, i64_ofH w5, i64_ofH w6, i64_ofH w7, i64_ofH w12, i64_ofH w13⟩, _, _, _, _, _, _, _, _, _, by rw [hd, x1, x2, x9, x10, x11]⟩
  rw [byte_ofH w8]
  rfl
theorem openedH {H : Type} {enc : TypeId × Value → H} {W : World} {cs : Array Value} {d : DataW H} {p : List MemPlace} (hcs : cs.size = Try.prog.cellsOf 23) (h : DataW.Trod enc Try.prog W 0 (fun _ => true) true 23 (.agg cs) d p) (hk : Rows.uptoBulk d ≤ 1048576) :
    ∃ m : Hr, cs = m.C ∧ m.Ok ∧ m.name.size + m.pfx.size + m.link.size + m.user.size + m.group.size ≤ 1048576 := by
  obtain ⟨m, h1, ⟨o0, o3, o4, o5, o6, o7, o12, o13⟩, y0, y3, y4, y5, y6, y7, y8, y12, y13, hd⟩ := openedH0 hcs h
  rw [hd] at hk
  simp only [Rows.uptoBulk, Rows.uptoBulkAll] at hk
  have s1 : m.name.data.toList.length = m.name.size := rfl
  have s2 : m.pfx.data.toList.length = m.pfx.size := rfl
  have s9 : m.link.data.toList.length = m.link.size := rfl
  have s10 : m.user.data.toList.length = m.user.size := rfl
  have s11 : m.group.data.toList.length = m.group.size := rfl
  exact ⟨m, h1, ⟨o0, o3, o4, o5, o6, o7, o12, o13, by omega, by omega, by omega, by omega, by omega⟩, by omega⟩
theorem openedHs {H : Type} {enc : TypeId × Value → H} {W : World} {cs : Array Value} {d : DataW H} {p : List MemPlace} (hcs : cs.size = Try.prog.cellsOf 23) (h : DataW.Trod enc Try.prog W 0 (fun _ => true) true 23 (.agg cs) d p) {ts : List TypeId} {ds : List (DataW H)} (hsz : (DataW.weightsEach Try.prog ts ds).all (· ≤ reachBytes) = true) {j : Nat} (ht : ts[j]? = some 23) (hd : ds[j]? = some d) :
    ∃ m : Hr, cs = m.C ∧ m.Ok := by
  obtain ⟨m, h1, ⟨o0, o3, o4, o5, o6, o7, o12, o13⟩, y0, y3, y4, y5, y6, y7, y8, y12, y13, hdd⟩ := openedH0 hcs h
  have hrb : reachBytes = 140737488351232 := by decide
  have key : ∀ n ∈ d.weights Try.prog 23, n ≤ 140737488351232 := fun n hn => by
    have := List.all_eq_true.1 hsz n (DataW.weights_mem_each ht hd n hn)
    rw [hrb] at this
    simpa using this
  rw [hdd] at key
  simp only [DataW.weights, Try.underlying23] at key
  have s1 : m.name.data.toList.length = m.name.size := rfl
  have k1 := key m.name.data.toList.length (DataW.weights_mem_each (j := 1) (t := 9) rfl rfl _ (by simp [DataW.weights]))
  have s2 : m.pfx.data.toList.length = m.pfx.size := rfl
  have k2 := key m.pfx.data.toList.length (DataW.weights_mem_each (j := 2) (t := 9) rfl rfl _ (by simp [DataW.weights]))
  have s9 : m.link.data.toList.length = m.link.size := rfl
  have k9 := key m.link.data.toList.length (DataW.weights_mem_each (j := 9) (t := 9) rfl rfl _ (by simp [DataW.weights]))
  have s10 : m.user.data.toList.length = m.user.size := rfl
  have k10 := key m.user.data.toList.length (DataW.weights_mem_each (j := 10) (t := 9) rfl rfl _ (by simp [DataW.weights]))
  have s11 : m.group.data.toList.length = m.group.size := rfl
  have k11 := key m.group.data.toList.length (DataW.weights_mem_each (j := 11) (t := 9) rfl rfl _ (by simp [DataW.weights]))
  exact ⟨m, h1, ⟨o0, o3, o4, o5, o6, o7, o12, o13, by omega, by omega, by omega, by omega, by omega⟩⟩
end Go.Proofs.Ytoegbaenheeogaa

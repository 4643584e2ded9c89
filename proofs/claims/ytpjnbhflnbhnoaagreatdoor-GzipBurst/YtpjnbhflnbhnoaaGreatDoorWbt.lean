import Derived.Test.YtpjnbhflnbhnoaaGreatDoorWac
import Derived.Test.YtpjnbhflnbhnoaaGreatDoorWad
import Derived.Test.YtpjnbhflnbhnoaaGreatDoorWao
namespace Go.Proofs.YtpjnbhflnbhnoaaGreatDoor
open Go.ChangeShapes Go.WideShapes Go.ChangeAt Go.RowKit Go.Deep
set_option linter.unusedVariables false
theorem cellsMb : Tryz.prog.cellsOf 25 = 8 := by kernel_rfl
theorem cells9m : Tryz.prog.cellsOf 9 = 1 := by kernel_rfl
theorem cellsBm : Tryz.prog.cellsOf 22 = 1 := by kernel_rfl
theorem cells23m : Tryz.prog.cellsOf 23 = 1 := by kernel_rfl
theorem cells4m : Tryz.prog.cellsOf 4 = 1 := by kernel_rfl
theorem eight (cs : Array Value) (h : cs.size = 8) : ∃ a b c d e f g i, cs = #[a, b, c, d, e, f, g, i] := by
  obtain ⟨l⟩ := cs
  match l, h with
  | [a, b, c, d, e, f, g, i], _ => exact ⟨a, b, c, d, e, f, g, i, rfl⟩
theorem eightL {α : Type} (l : List α) (h : l.length = 8) : ∃ a b c d e f g i, l = [a, b, c, d, e, f, g, i] := by
  match l, h with
  | [a, b, c, d, e, f, g, i], _ => exact ⟨a, b, c, d, e, f, g, i, rfl⟩
/-- What a member says, come in. -/
theorem openedM0 {H : Type} {enc : TypeId × Value → H} {W : World} {cs : Array Value} {d : DataW H} {p : List MemPlace} (hcs : cs.size = Tryz.prog.cellsOf 25) (h : DataW.Trod enc Tryz.prog W 0 (fun _ => true) true 25 (.agg cs) d p) :
    ∃ m : Mb, cs = m.row ∧ Sl (fun k => W.heap.size ≤ k) (.slice m.xa m.ex.length m.xc) m.ex W ∧ m.tm < 4294967296 ∧ ∃ r, d = .agg (.lit (.string m.nm.data.toList) :: .lit (.string m.cm.data.toList) :: r) := by
  obtain ⟨fuel, hf0⟩ := h
  obtain ⟨xs, kf, hk', hxy, _, hxl, hf⟩ := DataW.trod_struct Tryz.underlying25 hf0
  rw [cellsMb] at hcs
  obtain ⟨u0, u1, u2, u3, u4, u5, u6, u7, rfl⟩ := eight cs hcs
  obtain ⟨y0, y1, y2, y3, y4, y5, y6, y7, rfl⟩ := eightL xs hxl
  have g0 := hf 0 _ rfl
  have g1 := hf 1 _ rfl
  have g2 := hf 2 _ rfl
  have g3 := hf 3 _ rfl
  have g4 := hf 4 _ rfl
  have g5 := hf 5 _ rfl
  have g6 := hf 6 _ rfl
  have g7 := hf 7 _ rfl
  simp [Value.cells, cells9m, cellsBm, cells23m, cells5, cells4m] at g0 g1 g2 g3 g4 g5 g6 g7
  obtain ⟨nm, e0, x0, _⟩ := DataW.trod_string Tryz.underlying9 g0
  obtain ⟨cm, e1, x1, _⟩ := DataW.trod_string Tryz.underlying9 g1
  obtain ⟨tm, e3, _, w3⟩ := DataW.trod_int Tryz.underlying23 g3
  obtain ⟨fl, e4, _, w4⟩ := DataW.trod_int Tryz.underlying5 g4
  obtain ⟨sy, e5, _, w5⟩ := DataW.trod_int Tryz.underlying5 g5
  obtain ⟨tx, e6, _⟩ := DataW.trod_bool Tryz.underlying4 g6
  obtain ⟨sm, e7, _⟩ := DataW.trod_bool Tryz.underlying4 g7
  obtain rfl : u0 = .string nm := by simpa using e0
  obtain rfl : u1 = .string cm := by simpa using e1
  obtain rfl : u3 = .int .u32 tm := by simpa using e3
  obtain rfl : u4 = .int .u8 fl := by simpa using e4
  obtain rfl : u5 = .int .u8 sy := by simpa using e5
  obtain rfl : u6 = .bool tx := by simpa using e6
  obtain rfl : u7 = .bool sm := by simpa using e7
  obtain ⟨xa, xl, xc, rfl⟩ : ∃ xa xl xc, u2 = .slice xa xl xc := by
    rcases DataW.trod_slice Tryz.underlying22 g2 with ⟨e, _⟩ | ⟨a, l, c, _, _, _, _, e, _⟩
    · exact ⟨none, 0, 0, by simpa using e⟩
    · exact ⟨some a, l, c, by simpa using e⟩
  obtain ⟨ex, hex, hexl, _⟩ := openedB (d := y2.1) (p := y2.2) ⟨kf, g2⟩
  have hb3 : 0 ≤ tm ∧ tm < 4294967296 := by simp [Lit.wf, IntKind.bits, IntKind.signed, IntKind.min, IntKind.max] at w3; omega
  obtain ⟨tn, rfl⟩ : ∃ n : Nat, tm = (n : Int) := ⟨tm.toNat, by omega⟩
  subst hexl
  have hd : d = .agg [y0.1, y1.1, y2.1, y3.1, y4.1, y5.1, y6.1, y7.1] := (Prod.ext_iff.1 hxy).1
  refine ⟨⟨nm, cm, xa, xc, ex, tn, BitVec.ofNat 8 fl.toNat, BitVec.ofNat 8 sy.toNat, tx, sm⟩, ?_, hex, by simp only; omega, _, by rw [hd, x0, x1]⟩
  rw [byte_of w4, byte_of w5]
  rfl
theorem openedM {H : Type} {enc : TypeId × Value → H} {W : World} {cs : Array Value} {d : DataW H} {p : List MemPlace} (hcs : cs.size = Tryz.prog.cellsOf 25) (h : DataW.Trod enc Tryz.prog W 0 (fun _ => true) true 25 (.agg cs) d p) (hk : Rows.uptoBulk d ≤ 1048576) :
    ∃ m : Mb, cs = m.row ∧ Sl (fun k => W.heap.size ≤ k) (.slice m.xa m.ex.length m.xc) m.ex W ∧ m.nm.size ≤ 1048576 ∧ m.cm.size ≤ 1048576 ∧ m.tm < 4294967296 := by
  obtain ⟨m, h1, h2, h3, r, hd⟩ := openedM0 hcs h
  rw [hd] at hk
  simp only [Rows.uptoBulk, Rows.uptoBulkAll] at hk
  have s0 : m.nm.data.toList.length = m.nm.size := rfl
  have s1 : m.cm.data.toList.length = m.cm.size := rfl
  exact ⟨m, h1, h2, by omega, by omega, h3⟩
theorem openedMs {H : Type} {enc : TypeId × Value → H} {W : World} {cs : Array Value} {d : DataW H} {p : List MemPlace} (hcs : cs.size = Tryz.prog.cellsOf 25) (h : DataW.Trod enc Tryz.prog W 0 (fun _ => true) true 25 (.agg cs) d p) {ts : List TypeId} {ds : List (DataW H)} (hsz : (DataW.weightsEach Tryz.prog ts ds).all (· ≤ reachBytes) = true) {j : Nat} (ht : ts[j]? = some 25) (hd : ds[j]? = some d) :
    ∃ m : Mb, cs = m.row ∧ Sl (fun k => W.heap.size ≤ k) (.slice m.xa m.ex.length m.xc) m.ex W ∧ m.nm.size ≤ 140737488351232 ∧ m.cm.size ≤ 140737488351232 ∧ m.tm < 4294967296 := by
  obtain ⟨m, h1, h2, h3, r, hdd⟩ := openedM0 hcs h
  have hrb : reachBytes = 140737488351232 := by decide
  have key : ∀ n ∈ d.weights Tryz.prog 25, n ≤ 140737488351232 := fun n hn => by
    have := List.all_eq_true.1 hsz n (DataW.weights_mem_each ht hd n hn)
    rw [hrb] at this
    simpa using this
  rw [hdd] at key
  simp only [DataW.weights, Tryz.underlying25] at key
  have s0 : m.nm.data.toList.length = m.nm.size := rfl
  have s1 : m.cm.data.toList.length = m.cm.size := rfl
  have k0 := key m.nm.data.toList.length (DataW.weights_mem_each (j := 0) (t := 9) rfl rfl _ (by simp [DataW.weights]))
  have k1 := key m.cm.data.toList.length (DataW.weights_mem_each (j := 1) (t := 9) rfl rfl _ (by simp [DataW.weights]))
  exact ⟨m, h1, h2, by omega, by omega, h3⟩
end Go.Proofs.YtpjnbhflnbhnoaaGreatDoor

import Derived.Test.YtincbbnppcpfpaaDoorUae
import Derived.Laws.MakeOwn
namespace Go.Proofs.YtincbbnppcpfpaaDoor
open Go.RowKit
set_option linter.unusedVariables false
/-- Two lists of bytes, byte by byte. -/
theorem eq_upto (l m : List By) (k : Nat) (h : l.length = m.length) (hk : k ≤ l.length) (he : ∀ j, j < k → l[j]? = m[j]?) (hd : k = l.length) : l = m := by
  apply List.ext_getElem?
  intro i
  by_cases hi : i < k
  · exact he i hi
  · rw [List.getElem?_eq_none (by omega), List.getElem?_eq_none (by omega)]
theorem Sl.in' {X : Nat → Prop} {v : Value} {b : List By} {w : World} (h : Sl X v b w) (hs : b.length ≤ 200000000000000) : ∃ a c, v = .slice a b.length c ∧ In a c b w := by
  rcases h with ⟨a, rfl, rfl⟩ | ⟨g, _, o, c, rfl, h1, h2, h3⟩
  · exact ⟨a, 0, rfl, by simp, by simp, by simp, fun h => absurd rfl h⟩
  · exact ⟨_, c, rfl, h1, h2, hs, fun _ => ⟨g, o, rfl, h3⟩⟩
end Go.Proofs.YtincbbnppcpfpaaDoor

namespace Go.Proofs.YtincbbnppcpfpaaDoor
open Go.RowKit
set_option linter.unusedVariables false
theorem madeB (n : Nat) : (madeCells (Value.int .u8 0).cells n) = ((List.replicate n 0#8).map bv).toArray := by
  apply Array.ext'
  apply List.ext_getElem?
  intro k
  by_cases hk : k < n
  · simp [madeCells, Value.cells, hk, Nat.mod_one]
  · rw [List.getElem?_eq_none (by simp [madeCells, Value.cells]; omega), List.getElem?_eq_none (by simp; omega)]
/-- Room for bytes. -/
theorem make_any (w : World) (n : Nat) (hn : n ≤ 200000000000000) : ∃ W, (Instr.makeSlice 22 (.int .i64 0) (.int .i64 n)).run Tryd.prog w = .ok (.slice (some ⟨w.heap.size, 0, none⟩) 0 n) W ∧ Ow w.heap.size (.slice (some ⟨w.heap.size, 0, none⟩) 0 n) [] W ∧ Nw w W ∧ W.heap.size = w.heap.size + 1 := by
  obtain ⟨i, hi, hz, hs, hby⟩ := infoB
  have h := run_make (P := Tryd.prog) w 22 5 i _ Tryd.underlying22 hi hz .i64 .i64 0 n (Int.le_refl _) (by omega) (by rw [hby]; omega) (by omega)
  simp only [Int.toNat_zero, Int.toNat_natCast, hs, Nat.mul_one, madeB] at h
  refine ⟨_, h, ⟨List.replicate n 0#8, by simp, by simp, by simp, by simp; omega, ?_⟩, (Fr.refl _ _).alloc _, by simp⟩
  exact new_heap _ _
def marks : Nat → List By
  | 0 => []
  | k + 1 => marks k ++ [BitVec.ofNat 8 (171 + k)]
theorem marks_length (k : Nat) : (marks k).length = k := by
  induction k with
  | zero => rfl
  | succ k ih => simp [marks, ih]
theorem marks_at (k j : Nat) (h : j < k) : (marks k)[j]? = some (BitVec.ofNat 8 (171 + j)) := by
  induction k with
  | zero => omega
  | succ k ih =>
    have := marks_length k
    by_cases hj : j < k
    · simp only [marks]
      rw [List.getElem?_append_left (by omega)]; exact ih hj
    · obtain rfl : j = k := by omega
      simp only [marks]
      rw [List.getElem?_append_right (by omega), this]; simp
theorem one_byte' (w : World) (x : By) (z : Int) (hz : z = x.toNat) : Sl (fun _ => False) (.slice (some ⟨w.heap.size, 0, none⟩) 1 1) [x] (w.alloc (.cells #[.int .u8 z] 5)) := by
  subst hz; exact one_byte w x
/-- One byte more, in a block of one's own. -/
theorem own_step (g : Nat) (l : List By) (wr : World) (c : Nat) (h : Ow g (.slice (some ⟨g, 0, none⟩) l.length c) l wr) (hs : l.length ≤ 150000000000000) (x : By) (z : Int) (hz : z = x.toNat) :
    ∃ g' c' W, Hid (∀ ty, (Builtin.append_ #[22, 22] ty #[.slice (some ⟨g, 0, none⟩) l.length c, .slice (some ⟨wr.heap.size, 0, none⟩) 1 1]).run Tryd.prog (wr.alloc (.cells #[.int .u8 z] 5)) = .ok (.slice (some ⟨g', 0, none⟩) (l.length + 1) c') W) ∧ Hid (Ow g' (.slice (some ⟨g', 0, none⟩) (l.length + 1) c') (l ++ [x]) W ∧ Fr (fun k => k = g) wr W ∧ (g' = g ∨ wr.heap.size ≤ g')) := by
  have hN : Nw wr (wr.alloc (.cells #[.int .u8 z] 5)) := (Fr.refl _ _).alloc _
  obtain ⟨v', g', W, hap, hO, hF, hg⟩ := app_any _ g _ l (h.nw hN) _ _ (one_byte' wr x z hz) (by simp; omega)
  have hO' := hO
  obtain ⟨xs, rfl, _⟩ := hO'
  rw [List.length_append] at hO hap
  refine ⟨g', xs.length, W, hap, hO, hN.any.trans hF, ?_⟩
  rcases hg with h | h
  · exact .inl h
  · exact .inr (by simp at h; omega)
/-- What lent answers. -/
def Lentd (b : List By) (w : World) (e : Ending) (w' : World) : Prop :=
  ∃ g c, e = .returned (.tuple #[.slice (some ⟨g, 0, none⟩) b.length c, .slice (some ⟨g, 0, none⟩) (b.length + 32) c]) ∧ w.heap.size ≤ g ∧ Ow g (.slice (some ⟨g, 0, none⟩) (b.length + 32) c) (b ++ marks 32) w' ∧ Nw w w'
end Go.Proofs.YtincbbnppcpfpaaDoor

import Derived.Test.YtffhpoilifgcdaaDoorVak
import Derived.Test.YtffhpoilifgcdaaDoorVah
import Derived.Test.YtffhpoilifgcdaaDoorVac
import Derived.Lib.MinMax
import Derived.Lib.AppendZeros
import Derived.Handy
namespace Go.Proofs.YtffhpoilifgcdaaDoor
open Go.RowKit
set_option linter.unusedVariables false
/-! ### Rows of ranges -/
def rgC (x : Rg) : Array Value := #[.int .i64 x.1, .int .i64 x.2]
def RG : RT Rg := { enc := fun x => [.int .i64 x.1, .int .i64 x.2], k := 2, T := 51, TS := 22, z := (0, 0), by_ := 16 }
theorem rgOk : RG.Ok := by
  refine ⟨fun _ => rfl, by decide, fun x v hv => ?_, Tryd.underlying22, ?_⟩
  · simp only [RG, List.mem_cons, List.mem_nil_iff, or_false] at hv
    rcases hv with rfl | rfl <;> rfl
  · have h : (Tryd.prog.info? 51).map (fun i => (i.zero, i.size, i.bytes)) = some (some (.agg #[.int .i64 0, .int .i64 0]), 2, 16) := by kernel_rfl
    cases hq : Tryd.prog.info? 51 with
    | none => simp [hq] at h
    | some i => simp [hq] at h; exact ⟨i, _, hq, h.1, h.2.1, h.2.2, rfl⟩
theorem SlR.anyG {X : Nat → Prop} {v : Value} {l : List Rg} {w : World} (h : SlR RG X v l w) : SlR RG (fun _ => False) v l w := h.mono (fun _ h => h.elim)
theorem nHeap (w : World) (o : Obj) : (w.alloc o).heap[w.heap.size]? = some o := by
  show (w.heap.push o)[w.heap.size]? = _
  simp
theorem litG (V : World) (x : Rg) : OwR RG V.heap.size (.slice (some ⟨V.heap.size, 0, none⟩) 1 1) [x] (V.alloc (.cells (rgC x) 51)) := OwR.built rgOk V [x] _ (by simp [flatR, RG, rgC]) (by simp)
/-- One more behind a list of ranges. -/
theorem pushG (V : World) (og : Option Nat) (v : Value) (l : List Rg) (h : OgR RG og v l V) (hl : l.length ≤ 1000000000) (x : Rg) :
    ∃ og' v' W, Hid (∀ ty, (Builtin.append_ #[22, 22] ty #[v, .slice (some ⟨V.heap.size, 0, none⟩) 1 1]).run Tryd.prog (V.alloc (.cells (rgC x) 51)) = .ok v' W) ∧
      OgR RG og' v' (l ++ [x]) W ∧ Fr (fun k => og = some k) V W ∧ Went og og' V := by
  have hN : Nw V (V.alloc (.cells (rgC x) 51)) := (Fr.refl _ _).alloc _
  have hb := litG V x
  obtain ⟨v', og', W, k1, k2, k3, k4⟩ := ogR_app rgOk _ og v l (h.nw hN) (.slice (some ⟨V.heap.size, 0, none⟩) 1 1) [x] (hb.slr rgOk).anyG (by simp only [RG, List.length_singleton]; omega) (by simp only [List.length_singleton]; omega)
  exact ⟨og', v', W, k1, k2, hN.any.trans k3, Went.trans (Went.refl _ _) k4 hN.size⟩
theorem one_cell {w : World} {g : Nat} {v : Value} {T : Nat} (h : w.heap[g]? = some (.cells #[v] T)) : w.cell? ⟨g, 0, none⟩ = some v ∧ w.frozen? ⟨g, 0, none⟩ = false := by
  constructor <;> simp [World.cell?, World.frozen?, h]
theorem one_set {w : World} {g : Nat} {u v : Value} {T : Nat} (h : w.heap[g]? = some (.cells #[u] T)) : (w.setCell ⟨g, 0, none⟩ v).heap[g]? = some (.cells #[v] T) := by
  simp [World.setCell, Array.getElem?_modify, h]
theorem fr_set (w : World) (g : Nat) (v : Value) : Fr (fun k => k = g) w (w.setCell ⟨g, 0, none⟩ v) := (Fr.refl _ _).setCell _ _ (.inl rfl)
theorem Fr.heapv {X : Nat → Prop} {w w' : World} (h : Fr X w w') {g : Nat} {o : Obj} (hv : w.heap[g]? = some o) (hx : ¬ X g) : w'.heap[g]? = some o := (h.block g (Array.getElem?_eq_some_iff.1 hv).1 hx).trans hv
/-! ### Find's own memory -/
end Go.Proofs.YtffhpoilifgcdaaDoor

namespace Go.Proofs.YtffhpoilifgcdaaDoor
open Go.RowKit
set_option linter.unusedVariables false
def tellL (n : Nat) (l : List (Nat × Nat)) (d f t : Nat) : List (Nat × Nat) := if n ≤ t - f then cutS l d f t else l
def tellD (n d f t : Nat) : Nat := if n ≤ t - f then t else d
theorem FI.tell {b : List By} {n i : Nat} {l : List (Nat × Nat)} {d f : Nat} (h : FI b n i l d f) (h1 : 1 ≤ n) (he : i = b.length ∨ ∃ x, b[i]? = some x ∧ x ≠ 0#8) : TI b n i (tellL n l d f i) (tellD n d f i) := by
  unfold tellL tellD
  by_cases hn : n ≤ i - f
  · rw [if_pos hn, if_pos hn]; exact h.long h1 hn
  · rw [if_neg hn, if_neg hn]; exact h.short he hn
theorem gap_far (c : Nat) (q : List (Nat × Nat)) (e : Nat) (hg : Gaps q) (he : ∀ y ∈ q, e < y.1 ∧ y.1 < y.2 ∧ y.2 < c) : q = [] ∨ q.length + e ≤ c := by
  induction q generalizing e with
  | nil => exact .inl rfl
  | cons r q ih =>
    have gl := List.pairwise_cons.1 hg
    have hr := he r List.mem_cons_self
    right
    rcases ih r.2 gl.2 (fun y hy => ⟨gl.1 y hy, (he y (List.mem_cons_of_mem _ hy)).2⟩) with e1 | e1
    · subst e1; simp; omega
    · rw [List.length_cons]; omega
theorem gap_len {l : List (Nat × Nat)} {d : Nat} (hg : Gaps l) (he : ∀ x ∈ l, x.1 < x.2 ∧ x.2 < d) : l.length ≤ d := by
  cases l with
  | nil => simp
  | cons x l =>
    have gl := List.pairwise_cons.1 hg
    have hx := he x List.mem_cons_self
    rcases gap_far d l x.2 gl.2 (fun y hy => ⟨gl.1 y hy, he y (List.mem_cons_of_mem _ hy)⟩) with e1 | e1
    · subst e1; simp; omega
    · rw [List.length_cons]; omega
theorem TI.len {b : List By} {n t : Nat} {l : List (Nat × Nat)} {d : Nat} (h : TI b n t l d) : l.length ≤ b.length := by
  have := gap_len h.rise h.each
  have := h.dt
  have := h.tb
  omega
theorem Fnd.len {b : List By} {n : Nat} {l : List (Nat × Nat)} (h : Fnd b n l) : l.length ≤ b.length + 1 := gap_len h.rise (fun x hx => by have := h.each x hx; omega)
end Go.Proofs.YtffhpoilifgcdaaDoor

namespace Go.Proofs.YtffhpoilifgcdaaDoor
open Go.RowKit
set_option linter.unusedVariables false
theorem slx_len {X : Nat → Prop} {a : Option Addr} {n c : Nat} {l : List By} {w : World} (h : Sl X (.slice a n c) l w) : l.length = n ∧ n ≤ c ∧ c < 9223372036854775808 := by
  obtain ⟨a', c', e, q1, q2⟩ := h.form
  injection e with e1 e2 e3
  omega
theorem slx_at {X : Nat → Prop} {a : Option Addr} {n c : Nat} {l : List By} {w : World} (h : Sl X (.slice a n c) l w) (i : Nat) (hi : i < l.length) : ∃ g o, a = some ⟨g, o, none⟩ ∧ w.cell? ⟨g, o + i, none⟩ = some (.int .u8 l[i].toNat) := by
  rcases h with ⟨_, _, rfl⟩ | ⟨g, _, o, c', e, _, _, h⟩
  · simp at hi
  · injection e with e1 _ _
    exact ⟨g, o, e1, h i hi⟩
theorem by_ne {x : By} (h : x ≠ 0#8) : ¬ ((x.toNat : Int) = 0) := by
  intro e
  apply h
  apply BitVec.eq_of_toNat_eq
  have : (x.toNat : Int) = 0 := e
  simp
  omega
end Go.Proofs.YtffhpoilifgcdaaDoor

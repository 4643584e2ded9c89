import Derived.Test.YtffhpoilifgcdaaGnA
import Derived.Test.YtffhpoilifgcdaaNlB
import Derived.Test.YtffhpoilifgcdaaThA
import Derived.Lib.MinMax
import Derived.Lib.AppendZeros
import Derived.Handy
namespace Go.Proofs.Ytffhpoilifgcdaa
open Go.RowKit
set_option linter.unusedVariables false
/-! ### Rows of ranges -/
def rgC (x : Rg) : Array Value := #[.int .i64 x.1, .int .i64 x.2]
def RG : RT Rg := { enc := fun x => [.int .i64 x.1, .int .i64 x.2], k := 2, T := 29, TS := 23, z := (0, 0), by_ := 16 }
theorem rgOk : RG.Ok := by
  refine ⟨fun _ => rfl, by decide, fun x v hv => ?_, Try.underlying23, ?_⟩
  · simp only [RG, List.mem_cons, List.mem_nil_iff, or_false] at hv
    rcases hv with rfl | rfl <;> rfl
  · have h : (Try.prog.info? 29).map (fun i => (i.zero, i.size, i.bytes)) = some (some (.agg #[.int .i64 0, .int .i64 0]), 2, 16) := by kernel_rfl
    cases hq : Try.prog.info? 29 with
    | none => simp [hq] at h
    | some i => simp [hq] at h; exact ⟨i, _, hq, h.1, h.2.1, h.2.2, rfl⟩
theorem SlR.anyG {X : Nat → Prop} {v : Value} {l : List Rg} {w : World} (h : SlR RG X v l w) : SlR RG (fun _ => False) v l w := h.mono (fun _ h => h.elim)
theorem nHeap (w : World) (o : Obj) : (w.alloc o).heap[w.heap.size]? = some o := by
  show (w.heap.push o)[w.heap.size]? = _
  simp
theorem litG (V : World) (x : Rg) : OwR RG V.heap.size (.slice (some ⟨V.heap.size, 0, none⟩) 1 1) [x] (V.alloc (.cells (rgC x) 29)) := OwR.built rgOk V [x] _ (by simp [flatR, RG, rgC]) (by simp)
/-- One more behind a list of ranges. -/
theorem pushG (V : World) (og : Option Nat) (v : Value) (l : List Rg) (h : OgR RG og v l V) (hl : l.length ≤ 1000000000) (x : Rg) :
    ∃ og' v' W, Hid (∀ ty, (Builtin.append_ #[23, 23] ty #[v, .slice (some ⟨V.heap.size, 0, none⟩) 1 1]).run Try.prog (V.alloc (.cells (rgC x) 29)) = .ok v' W) ∧
      OgR RG og' v' (l ++ [x]) W ∧ Fr (fun k => og = some k) V W ∧ Went og og' V := by
  have hN : Nw V (V.alloc (.cells (rgC x) 29)) := (Fr.refl _ _).alloc _
  have hb := litG V x
  obtain ⟨v', og', W, k1, k2, k3, k4⟩ := ogR_app rgOk _ og v l (h.nw hN) (.slice (some ⟨V.heap.size, 0, none⟩) 1 1) [x] (hb.slr rgOk).anyG (by simp only [RG, List.length_singleton]; omega) (by simp only [List.length_singleton]; omega)
  exact ⟨og', v', W, k1, k2, hN.any.trans k3, Went.trans (Went.refl _ _) k4 hN.size⟩
theorem one_cell {w : World} {g : Nat} {v : Value} {T : Nat} (h : w.heap[g]? = some (.cells #[v] T)) : w.cell? ⟨g, 0, none⟩ = some v ∧ w.frozen? ⟨g, 0, none⟩ = false := by
  constructor <;> simp [World.cell?, World.frozen?, h]
theorem one_set {w : World} {g : Nat} {u v : Value} {T : Nat} (h : w.heap[g]? = some (.cells #[u] T)) : (w.setCell ⟨g, 0, none⟩ v).heap[g]? = some (.cells #[v] T) := by
  simp [World.setCell, Array.getElem?_modify, h]
theorem fr_set (w : World) (g : Nat) (v : Value) : Fr (fun k => k = g) w (w.setCell ⟨g, 0, none⟩ v) := (Fr.refl _ _).setCell _ _ (.inl rfl)
theorem Fr.heapv {X : Nat → Prop} {w w' : World} (h : Fr X w w') {g : Nat} {o : Obj} (hv : w.heap[g]? = some o) (hx : ¬ X g) : w'.heap[g]? = some o := (h.block g (Array.getElem?_eq_some_iff.1 hv).1 hx).trans hv
/-! ### Find's own memory -/
structure FM (w : World) (B0 B1 B2 B3 : Nat) (z : Int) (l : List (Nat × Nat)) (d : Nat) (V : World) : Prop where
  nw : Nw w V
  o0 : w.heap.size ≤ B0
  o1 : B0 < B1
  o2 : B1 < B2
  o3 : B2 < B3
  c0 : V.heap[B0]? = some (.cells #[.int .i64 z] 3)
  c2 : V.heap[B2]? = some (.cells #[.int .i64 d] 3)
  c3 : V.heap[B3]? = some (.cells #[.func (.func 20) #[] #[.pointer (some ⟨B2, 0, none⟩), .pointer (some ⟨B1, 0, none⟩)]] 43)
  c1 : ∃ og v, V.heap[B1]? = some (.cells #[v] 23) ∧ OgR RG og v (rgL l) V ∧ ∀ g, og = some g → B3 < g
theorem FM.more {w : World} {B0 B1 B2 B3 : Nat} {z : Int} {l : List (Nat × Nat)} {d : Nat} {V V' : World} (h : FM w B0 B1 B2 B3 z l d V) (f : Nw V V') : FM w B0 B1 B2 B3 z l d V' := by
  obtain ⟨og, v, k1, k2, k3⟩ := h.c1
  exact ⟨h.nw.trans f, h.o0, h.o1, h.o2, h.o3, f.heap h.c0, f.heap h.c2, f.heap h.c3, og, v, f.heap k1, k2.nw f, k3⟩
theorem FM.setD {w : World} {B0 B1 B2 B3 : Nat} {z : Int} {l : List (Nat × Nat)} {d : Nat} {V : World} (h : FM w B0 B1 B2 B3 z l d V) (t : Nat) : FM w B0 B1 B2 B3 z l t (V.setCell ⟨B2, 0, none⟩ (.int .i64 t)) := by
  obtain ⟨og, v, k1, k2, k3⟩ := h.c1
  have o0 := h.o0
  have o1 := h.o1
  have o2 := h.o2
  have o3 := h.o3
  have f := fr_set V B2 (.int .i64 t)
  exact ⟨h.nw.then f (fun i hi => .inr (by omega)), h.o0, h.o1, h.o2, h.o3, f.heapv h.c0 (by omega), one_set h.c2, f.heapv h.c3 (by omega), og, v, f.heapv k1 (by omega), k2.kept f (fun g hg e => by have := k3 g hg; omega), k3⟩
theorem FM.push {w : World} {B0 B1 B2 B3 : Nat} {z : Int} {l : List (Nat × Nat)} {d : Nat} {V : World} (h : FM w B0 B1 B2 B3 z l d V) (hl : l.length ≤ 1000000000) (x : Nat × Nat) :
    ∃ v a' n' c' W, V.cell? ⟨B1, 0, none⟩ = some v ∧ Hid (∀ ty, (Builtin.append_ #[23, 23] ty #[v, .slice (some ⟨V.heap.size, 0, none⟩) 1 1]).run Try.prog (V.alloc (.cells #[.int .i64 (x.1 : Int), .int .i64 (x.2 : Int)] 29)) = .ok (.slice a' n' c') W) ∧
      W.cell? ⟨B1, 0, none⟩ = some v ∧ W.frozen? ⟨B1, 0, none⟩ = false ∧ FM w B0 B1 B2 B3 z (l ++ [x]) d (W.setCell ⟨B1, 0, none⟩ (.slice a' n' c')) := by
  obtain ⟨og, v, k1, k2, k3⟩ := h.c1
  have o0 := h.o0
  have o1 := h.o1
  have o2 := h.o2
  have o3 := h.o3
  obtain ⟨og', v', W, a1, a2, a3, a4⟩ := pushG V og v (rgL l) k2 (by rw [rgL_len]; exact hl) ((x.1 : Int), (x.2 : Int))
  obtain ⟨a', c', rfl, _, _⟩ := a2.form
  have hB : ∀ k, k ≤ B3 → ¬ (og = some k) := fun k hk e => by have := k3 k e; omega
  have k1' := a3.heapv k1 (hB B1 (by omega))
  have f := fr_set W B1 (.slice a' (rgL l ++ [((x.1 : Int), (x.2 : Int))]).length c')
  have hlt := (Array.getElem?_eq_some_iff.1 h.c3).1
  refine ⟨v, a', _, c', W, (one_cell k1).1, a1, (one_cell k1').1, (one_cell k1').2, ⟨(h.nw.then a3 (fun i hi => .inr (by have := k3 i hi; omega))).then f (fun i hi => .inr (by omega)), h.o0, h.o1, h.o2, h.o3, f.heapv (a3.heapv h.c0 (hB _ (by omega))) (by omega), f.heapv (a3.heapv h.c2 (hB _ (by omega))) (by omega), f.heapv (a3.heapv h.c3 (hB _ (by omega))) (by omega), og', _, one_set k1', ?_, ?_⟩⟩
  · rw [rgL_snoc]
    refine a2.kept f (fun g hg e => ?_)
    rcases a4 with e2 | ⟨g', e2, hg'⟩
    · rw [e2] at hg; have := k3 g hg; omega
    · rw [e2] at hg; injection hg with hg; omega
  · intro g hg
    rcases a4 with e2 | ⟨g', e2, hg'⟩
    · rw [e2] at hg; exact k3 g hg
    · rw [e2] at hg; injection hg with hg; omega
set_option maxHeartbeats 4000000 in
set_option maxRecDepth 100000 in
theorem cut_any (w : World) (B0 B1 B2 B3 : Nat) (z : Int) (l : List (Nat × Nat)) (d : Nat) (V : World) (h : FM w B0 B1 B2 B3 z l d V) (hl : l.length ≤ 1000000000) (f t : Nat) :
    Calls Try.prog 20 #[.int .i64 f, .int .i64 t, .pointer (some ⟨B2, 0, none⟩), .pointer (some ⟨B1, 0, none⟩)] V fun e V' => (∃ r, e = .returned r) ∧ FM w B0 B1 B2 B3 z (cutS l d f t) t V' := by
  obtain ⟨P, hP⟩ : ∃ P : Ending → World → Prop, P = fun e V' => (∃ r, e = .returned r) ∧ FM w B0 B1 B2 B3 z (cutS l d f t) t V' := ⟨_, rfl⟩
  rw [← hP]
  obtain ⟨x0, x1⟩ := one_cell h.c2
  unfold cutS at hP
  by_cases hd : d < f
  · rw [if_pos hd] at hP
    obtain ⟨v, a', n', c', W, a1, HA, a3, a4, a5⟩ := h.push hl (d, f)
    have a6 := a5.setD t
    have HF : Hid (∀ r, P (.returned r) ((W.setCell ⟨B1, 0, none⟩ (.slice a' n' c')).setCell ⟨B2, 0, none⟩ (.int .i64 t))) := fun r => by rw [hP]; exact ⟨⟨_, rfl⟩, a6⟩
    obtain ⟨y0, y1⟩ := one_cell a5.c2
    have hdi : (d : Int) < (f : Int) := by omega
    obtain ⟨U, hU⟩ : ∃ U, W.setCell ⟨B1, 0, none⟩ (.slice a' n' c') = U := ⟨_, rfl⟩
    rw [hU] at HF y0 y1
    clear hP h hl a5 a6 hd
    simp only at HA
    go_enter Try.func20, Try.ntmps20
    go_wp2_with (first
      | (at_builtin; refine Lib.wpList_append_run _ rfl _ _ 23 23 rfl v (.slice (some ⟨V.heap.size, 0, none⟩) 1 1) (by first | rfl | simp [Act.eval]) (by first | rfl | simp [Act.eval]) _ _ (HA.out _) ?_))
    go_end0
    exact HF.out _
  · rw [if_neg hd] at hP
    have a6 := h.setD t
    have HF : Hid (∀ r, P (.returned r) (V.setCell ⟨B2, 0, none⟩ (.int .i64 t))) := fun r => by rw [hP]; exact ⟨⟨_, rfl⟩, a6⟩
    have hdi : ¬ (d : Int) < (f : Int) := by omega
    clear hP h hl a6 hd
    go_enter Try.func20, Try.ntmps20
    go_wp2_with fail
    go_end0
    exact HF.out _
end Go.Proofs.Ytffhpoilifgcdaa

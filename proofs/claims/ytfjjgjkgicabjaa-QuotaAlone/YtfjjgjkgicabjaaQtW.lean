import Derived.Test.YtfjjgjkgicabjaaQtT
namespace Go.Proofs.Ytfjjgjkgicabjaa
open Go.RowKit Go.MuLone
set_option linter.unusedVariables false
/-- What b takes in a's place. -/
def yOf (o x : En) : En := { o with name := x.name, kind := x.kind, size := if x.kind = 2 then x.size else o.size }
theorem y_ok {o x : En} (ho : o.Ok) (hx : x.Ok) : (yOf o x).Ok := by
  refine ⟨hx.nm, ?_, ?_⟩
  · show _ ≤ (if x.kind = 2 then x.size else o.size)
    split
    · exact hx.s0
    · exact ho.s0
  · show (if x.kind = 2 then x.size else o.size) ≤ _
    split
    · exact hx.s1
    · exact ho.s1
theorem y_nb (o x : En) : (yOf o x).nb = x.nb := by
  unfold En.nb yOf
  simp only
  by_cases h : x.kind = 2
  · rw [if_pos h, if_pos h, if_pos h]
  · rw [if_neg h, if_neg h]
theorem y_tk (q : Qt) (s : St) (o x : En) : tkE q s (yOf o x) = tkE q s x ∧ tkS q s (yOf o x) = tkS q s x := by
  have h1 : tkE q s (yOf o x) = tkE q s x := by
    unfold tkE En.why
    rw [y_nb]
    rfl
  exact ⟨h1, by unfold tkS; rw [h1, y_nb]⟩
/-- What was taken can be given back and taken again. -/
theorem tk_back {q : Qt} {s : St} {e : En} (hI : s.In q) (h : tkE q s e = 0) : bkE (tkS q s e) e = 0 ∧ bkS (tkS q s e) e = s := by
  obtain ⟨k1, k2, k3⟩ := tkE_zero.1 h
  have k4 := (why_nb k1).1
  have e1 : tkS q s e = ⟨s.b + e.nb, s.n + 1⟩ := by unfold tkS; rw [if_pos h]
  have h0 : bkE (tkS q s e) e = 0 := by
    rw [e1]
    exact bkE_zero.2 ⟨k4, by show e.nb ≤ s.b + e.nb; have := hI.b0; omega, by show s.n + 1 ≠ 0; have := hI.n0; omega⟩
  refine ⟨h0, ?_⟩
  unfold bkS; rw [if_pos h0, e1]
  show St.mk (s.b + e.nb - e.nb) (s.n + 1 - 1) = s
  obtain ⟨b, n⟩ := s
  congr 1
  · show b + e.nb - e.nb = b; omega
  · show n + 1 - 1 = n; omega
/-- A round: the copies x and y, what was left ahead of it. -/
structure AL (w : World) (o : En) (X G : Nat) (x y : En) (W : Array Value) (pa pb : Nat) (q : Qt) (sa sb : St) (V : World) : Prop where
  ex : V.heap[X]? = some (.cells x.C 38)
  ey : V.heap[X + 1]? = some (.cells y.C 38)
  wa : V.heap[G]? = some (.cells W 23)
  qo : QO w pa pb q sa sb V
  oo : V.heap[w.heap.size + 1]? = some (.cells o.C 38)
  n1 : X ≠ pa ∧ X ≠ pb ∧ X + 1 ≠ pa ∧ X + 1 ≠ pb ∧ G ≠ pa ∧ G ≠ pb ∧ w.heap.size + 1 ≠ pa ∧ w.heap.size + 1 ≠ pb
theorem row_kept {g : Nat} {o : Obj} {V U : World} {Y : Nat → Prop} (h : V.heap[g]? = some o) (f : Fr Y V U) (hg : ¬ Y g) : U.heap[g]? = some o := (f.block g (Array.getElem?_eq_some_iff.1 h).1 hg).trans h
theorem AL.onA {w : World} {o : En} {X G : Nat} {x y : En} {W : Array Value} {pa pb : Nat} {q : Qt} {sa sb s' : St} {V U : World} (h : AL w o X G x y W pa pb q sa sb V) (hU : MtB pa q s' U) (f : Fr (fun k => k = pa) V U) : AL w o X G x y W pa pb q s' sb U := by
  obtain ⟨a1, a2, a3, a4, a5, n1, n2, n3, n4, n5, n6, n7, n8⟩ := h
  exact ⟨row_kept a1 f n1, row_kept a2 f n3, row_kept a3 f n5, a4.onA hU f, row_kept a5 f n7, n1, n2, n3, n4, n5, n6, n7, n8⟩
theorem AL.onB {w : World} {o : En} {X G : Nat} {x y : En} {W : Array Value} {pa pb : Nat} {q : Qt} {sa sb s' : St} {V U : World} (h : AL w o X G x y W pa pb q sa sb V) (hU : MtB pb q s' U) (f : Fr (fun k => k = pb) V U) : AL w o X G x y W pa pb q sa s' U := by
  obtain ⟨a1, a2, a3, a4, a5, n1, n2, n3, n4, n5, n6, n7, n8⟩ := h
  exact ⟨row_kept a1 f n2, row_kept a2 f n4, row_kept a3 f n6, a4.onB hU f, row_kept a5 f n8, n1, n2, n3, n4, n5, n6, n7, n8⟩
theorem AL.nw {w : World} {o : En} {X G : Nat} {x y : En} {W : Array Value} {pa pb : Nat} {q : Qt} {sa sb : St} {V U : World} (h : AL w o X G x y W pa pb q sa sb V) (f : Nw V U) : AL w o X G x y W pa pb q sa sb U := by
  obtain ⟨a1, a2, a3, a4, a5, n⟩ := h
  exact ⟨f.heap a1, f.heap a2, f.heap a3, ⟨f.heap a4.a, f.heap a4.b, a4.n.trans f, a4.ha, a4.hb, a4.ne⟩, f.heap a5, n⟩
/-- The first look at what is left: the round begins. -/
theorem al_start {w wr V U : World} {o : En} {x y : En} {W : Array Value} {pa pb : Nat} {q : Qt} {s : St} (hQ : QO w pa pb q s s wr) (hoo : wr.heap[w.heap.size + 1]? = some (.cells o.C 38)) (n7 : w.heap.size + 1 ≠ pa) (n8 : w.heap.size + 1 ≠ pb) (hV : Nw wr V) (hx : V.heap[wr.heap.size]? = some (.cells x.C 38)) (hy : V.heap[wr.heap.size + 1]? = some (.cells y.C 38)) (hm : MtB pa q s U) (f : Fr (fun k => k = pa) V U) :
    AL w o wr.heap.size U.heap.size x y W pa pb q s s (U.alloc (.cells W 23)) := by
  have la := hQ.a.lt
  have lb := hQ.b.lt
  have ls := (Nat.le_trans hV.size f.size)
  have hQU : QO w pa pb q s s U := by
    have hQV : QO w pa pb q s s V := ⟨hV.heap hQ.a, hV.heap hQ.b, hQ.n.trans hV, hQ.ha, hQ.hb, hQ.ne⟩
    exact hQV.onA hm f
  have hn : Nw U (U.alloc (.cells W 23)) := (Fr.refl _ _).alloc _
  exact ⟨hn.heap (row_kept hx f (by omega)), hn.heap (row_kept hy f (by omega)), newHeapQ _ _, ⟨hn.heap hQU.a, hn.heap hQU.b, hQU.n.trans hn, hQU.ha, hQU.hb, hQU.ne⟩, hn.heap (row_kept (hV.heap hoo) f n7), by omega, by omega, by omega, by omega, by omega, by omega, n7, n8⟩
theorem enC_cells {V : World} {g : Nat} {e : En} (h : V.heap[g]? = some (.cells e.C 38)) : V.cell? ⟨g, 0, none⟩ = some (.string (mk e.name)) ∧ V.cell? ⟨g, 1, none⟩ = some (.int .i64 e.kind) ∧ V.cell? ⟨g, 2, none⟩ = some (.int .u32 e.mode) ∧ V.cell? ⟨g, 3, none⟩ = some (.int .u32 e.uid) ∧ V.cell? ⟨g, 4, none⟩ = some (.int .u32 e.gid) ∧ V.cell? ⟨g, 5, none⟩ = some (.int .i64 e.time) ∧ V.cell? ⟨g, 6, none⟩ = some (.int .i32 e.nano) ∧ V.cell? ⟨g, 7, none⟩ = some (.string e.user) ∧ V.cell? ⟨g, 8, none⟩ = some (.string e.group) ∧ V.cell? ⟨g, 9, none⟩ = some (.string e.link) ∧ V.cell? ⟨g, 10, none⟩ = some (.int .i64 e.size) ∧ V.cell? ⟨g, 11, none⟩ = some (.int .u8 e.typ) := by
  unfold En.C at h
  refine ⟨?_, ?_, ?_, ?_, ?_, ?_, ?_, ?_, ?_, ?_, ?_, ?_⟩ <;> simp [World.cell?, h]
end Go.Proofs.Ytfjjgjkgicabjaa

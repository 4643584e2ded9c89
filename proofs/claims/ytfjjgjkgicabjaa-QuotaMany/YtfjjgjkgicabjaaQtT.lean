import Derived.Test.YtfjjgjkgicabjaaQtS
import Derived.Test.YtfjjgjkgicabjaaQtP
namespace Go.Proofs.Ytfjjgjkgicabjaa
open Go.RowKit Go.MuLone
set_option linter.unusedVariables false
/-- The cells of an entry of a list. -/
theorem en_at {X : Nat → Prop} {a : Option Addr} {n c : Nat} {l : List En} {w : World} (h : SlR RE X (.slice a n c) l w) (i : Nat) (hx : i < l.length) : ∃ g o, a = some ⟨g, o, none⟩ ∧ w.cell? ⟨g, o + i * 12, none⟩ = some (.string (mk (l[i]).name)) ∧ w.cell? ⟨g, o + i * 12 + 1, none⟩ = some (.int .i64 (l[i]).kind) ∧ w.cell? ⟨g, o + i * 12 + 2, none⟩ = some (.int .u32 (l[i]).mode) ∧ w.cell? ⟨g, o + i * 12 + 3, none⟩ = some (.int .u32 (l[i]).uid) ∧ w.cell? ⟨g, o + i * 12 + 4, none⟩ = some (.int .u32 (l[i]).gid) ∧ w.cell? ⟨g, o + i * 12 + 5, none⟩ = some (.int .i64 (l[i]).time) ∧ w.cell? ⟨g, o + i * 12 + 6, none⟩ = some (.int .i32 (l[i]).nano) ∧ w.cell? ⟨g, o + i * 12 + 7, none⟩ = some (.string (l[i]).user) ∧ w.cell? ⟨g, o + i * 12 + 8, none⟩ = some (.string (l[i]).group) ∧ w.cell? ⟨g, o + i * 12 + 9, none⟩ = some (.string (l[i]).link) ∧ w.cell? ⟨g, o + i * 12 + 10, none⟩ = some (.int .i64 (l[i]).size) ∧ w.cell? ⟨g, o + i * 12 + 11, none⟩ = some (.int .u8 (l[i]).typ) := by
  obtain ⟨g, o, e, hg, hc⟩ := h.at i l[i] (List.getElem?_eq_getElem hx)
  exact ⟨g, o, e, hc 0 _ rfl, hc 1 _ rfl, hc 2 _ rfl, hc 3 _ rfl, hc 4 _ rfl, hc 5 _ rfl, hc 6 _ rfl, hc 7 _ rfl, hc 8 _ rfl, hc 9 _ rfl, hc 10 _ rfl, hc 11 _ rfl⟩
/-- Two meters of one quota, apart. -/
structure QO (w : World) (pa pb : Nat) (q : Qt) (sa sb : St) (V : World) : Prop where
  a : MtB pa q sa V
  b : MtB pb q sb V
  n : Nw w V
  ha : w.heap.size ≤ pa
  hb : w.heap.size ≤ pb
  ne : pa ≠ pb
theorem QO.onA {w : World} {pa pb : Nat} {q : Qt} {sa sb s' : St} {V U : World} (h : QO w pa pb q sa sb V) (hU : MtB pa q s' U) (f : Fr (fun k => k = pa) V U) : QO w pa pb q s' sb U :=
  ⟨hU, h.b.kept f (fun e => h.ne e.symm), h.n.then f (fun k hk => .inr (by rw [hk]; exact h.ha)), h.ha, h.hb, h.ne⟩
theorem QO.onB {w : World} {pa pb : Nat} {q : Qt} {sa sb s' : St} {V U : World} (h : QO w pa pb q sa sb V) (hU : MtB pb q s' U) (f : Fr (fun k => k = pb) V U) : QO w pa pb q sa s' U :=
  ⟨h.a.kept f h.ne, hU, h.n.then f (fun k hk => .inr (by rw [hk]; exact h.hb)), h.ha, h.hb, h.ne⟩
/-- What the entries of a list need, place by place. -/
def nbL (l : List En) (i : Nat) : Int := (l[i]?.map En.nb).getD 0
theorem nbL_at {l : List En} {i : Nat} (h : i < l.length) : nbL l i = (l[i]).nb := by unfold nbL; rw [List.getElem?_eq_getElem h]; rfl
/-- How the first loop stands. -/
structure O1 (l : List En) (q : Qt) (I : Nat) : Prop where
  inq : St.In q ⟨sm (nbL l) I, I⟩
  why : ∀ j (h : j < l.length), j < I → (l[j]).why q = 0
theorem O1.start {l : List En} {q : Qt} (hc : q.can = true) : O1 l q 0 := ⟨In0 hc, fun j h h0 => by omega⟩
theorem O1.next {l : List En} {q : Qt} {I : Nat} (h : O1 l q I) (hI : I < l.length) (ht : tkE q ⟨sm (nbL l) I, I⟩ l[I] = 0) : O1 l q (I + 1) ∧ tkS q ⟨sm (nbL l) I, I⟩ l[I] = ⟨sm (nbL l) (I + 1), ((I + 1 : Nat) : Int)⟩ := by
  have e : tkS q ⟨sm (nbL l) I, I⟩ l[I] = ⟨sm (nbL l) (I + 1), ((I + 1 : Nat) : Int)⟩ := by
    unfold tkS; rw [if_pos ht]
    show St.mk (sm (nbL l) I + (l[I]).nb) ((I : Int) + 1) = _
    rw [sm, nbL_at hI]
    congr 1
  refine ⟨⟨by rw [← e]; exact tkS_in h.inq, fun j hj hjI => ?_⟩, e⟩
  by_cases h1 : j < I
  · exact h.why j hj h1
  · obtain rfl : j = I := by omega
    exact (tkE_zero.1 ht).1
/-- One round of the second loop. -/
theorem o2_next {l : List En} {q : Qt} (h : O1 l q l.length) (T k : Nat) (hk : k < l.length) (hi : (k + T) % l.length < l.length) :
    let y := fun i => nbL l ((i + T) % l.length)
    let s : St := ⟨sm y l.length - sm y (k + 1), (l.length : Int) - (k + 1 : Nat)⟩
    s.In q ∧ tkE q s (l[(k + T) % l.length]) = 0 ∧ tkS q s (l[(k + T) % l.length]) = ⟨sm y l.length - sm y k, (l.length : Int) - k⟩ := by
  intro y s
  have hy : ∀ i, i < l.length → 0 ≤ y i := fun i hi' => by
    have hm : (i + T) % l.length < l.length := Nat.mod_lt _ (by omega)
    show 0 ≤ nbL l ((i + T) % l.length)
    rw [nbL_at hm]
    exact (why_nb (h.why _ hm hm)).1
  have e1 : sm y l.length = sm (nbL l) l.length := sm_turn (nbL l) l.length T (by omega)
  have e2 : sm y (k + 1) = sm y k + y k := rfl
  have e3 : y k = (l[(k + T) % l.length]).nb := nbL_at hi
  have m1 := sm_mono hy (show k + 1 ≤ l.length by omega)
  have m0 := sm_nonneg (x := y) (n := k) (fun i hi' => hy i (by omega))
  have m2 := sm_nonneg (x := y) (n := k + 1) (fun i hi' => hy i (by omega))
  obtain ⟨i1, i2, i3, i4⟩ := h.inq
  simp only at i1 i2 i3 i4
  have hin : s.In q := ⟨by show 0 ≤ sm y l.length - sm y (k + 1); omega, by show sm y l.length - sm y (k + 1) ≤ q.B; omega, by show 0 ≤ (l.length : Int) - (k + 1 : Nat); omega, by show (l.length : Int) - (k + 1 : Nat) ≤ q.E; omega⟩
  have ht : tkE q s (l[(k + T) % l.length]) = 0 := tkE_zero.2 ⟨h.why _ hi hi, by show (l.length : Int) - (k + 1 : Nat) < q.E; omega, by show _ ≤ q.B - (sm y l.length - sm y (k + 1)); omega⟩
  refine ⟨hin, ht, ?_⟩
  unfold tkS; rw [if_pos ht]
  show St.mk (sm y l.length - sm y (k + 1) + (l[(k + T) % l.length]).nb) ((l.length : Int) - (k + 1 : Nat) + 1) = _
  congr 1
  · omega
  · omega
end Go.Proofs.Ytfjjgjkgicabjaa

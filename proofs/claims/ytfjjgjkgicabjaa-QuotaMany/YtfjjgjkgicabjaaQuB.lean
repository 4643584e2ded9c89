import Derived.Test.YtfjjgjkgicabjaaQuA
namespace Go.Proofs.Ytfjjgjkgicabjaa
open Go.RowKit Go.MuLone
set_option linter.unusedVariables false
/-! ### The answers in memory -/
def RN : RT Nat := { enc := fun x => [.int .i64 (x : Int)], k := 1, T := 45, TS := 49, z := 0, by_ := 8 }
theorem rnOk : RN.Ok := by
  refine ⟨fun _ => rfl, by decide, fun x v hv => ?_, Try.underlying49, ?_⟩
  · simp only [RN, List.mem_cons, List.mem_nil_iff, or_false] at hv
    subst hv; rfl
  · have h : (Try.prog.info? 45).map (fun i => (i.zero, i.size, i.bytes)) = some (some (.int .i64 0), 1, 8) := by kernel_rfl
    cases hq : Try.prog.info? 45 with
    | none => simp [hq] at h
    | some i => simp [hq] at h; exact ⟨i, _, hq, h.1, h.2.1, h.2.2, rfl⟩
def OutB (g : Nat) (os : List Nat) (w : World) : Prop := w.heap[g]? = some (.cells (os.map (fun x : Nat => Value.int .i64 (x : Int))).toArray 45)
theorem flatN (xs : List Nat) : flatR RN xs = xs.map (fun x : Nat => Value.int .i64 (x : Int)) := by
  induction xs with
  | nil => rfl
  | cons x r ih => rw [flatR, ih]; rfl
theorem OutB.lt {g : Nat} {os : List Nat} {w : World} (h : OutB g os w) : g < w.heap.size := (Array.getElem?_eq_some_iff.1 h).1
theorem OutB.at {g : Nat} {os : List Nat} {w : World} (h : OutB g os w) (i : Nat) (hi : i < os.length) : w.cell? ⟨g, i, none⟩ = some (.int .i64 ((os[i] : Nat) : Int)) ∧ w.frozen? ⟨g, i, none⟩ = false := by
  unfold OutB at h
  constructor <;> simp [World.cell?, World.frozen?, h, List.getElem?_eq_getElem hi]
theorem OutB.set {g : Nat} {os : List Nat} {w : World} (h : OutB g os w) (i t : Nat) : OutB g (os.set i t) (w.setCell ⟨g, i, none⟩ (.int .i64 (t : Int))) := by
  unfold OutB at h ⊢
  simp only [World.setCell, Array.getElem?_modify, h]
  simp [List.map_set]
/-- The answers' slice is made. -/
theorem out_made (w : World) (n : Nat) (hn : n ≤ 1172812402961) : ∃ W, (Instr.makeSlice 49 (.int .i64 (n : Int)) (.int .i64 (n : Int))).run Try.prog w = .ok (.slice (some ⟨w.heap.size, 0, none⟩) n n) W ∧ OutB w.heap.size (List.replicate n 0) W ∧ Nw w W := by
  obtain ⟨W, h1, h2, h3, h4⟩ := OwR.made rnOk w n n (Nat.le_refl _) (by simp only [RN]; omega) (by omega)
  refine ⟨W, h1, ?_, h3⟩
  obtain ⟨xs, e1, e2, e3, e4, e5⟩ := h2
  have hx : xs.length = n := by injection e1 with _ _ e; exact e.symm
  have hxs : xs = List.replicate n 0 := by
    rw [List.length_replicate, List.take_of_length_le (by omega)] at e2
    exact e2
  unfold SwR at e5
  rw [hxs, flatN] at e5
  exact e5
/-- The meter, the answers, the quota's box. -/
structure QM (w : World) (pm : Nat) (q : Qt) (s : St) (go : Nat) (os : List Nat) (V : World) : Prop where
  m : MtB pm q s V
  o : OutB go os V
  n : Nw w V
  bx : V.heap[w.heap.size]? = some (.cells q.C 23)
  hm : w.heap.size < pm
  ho : w.heap.size < go
  ne : pm ≠ go
theorem QM.onM {w : World} {pm : Nat} {q : Qt} {s s' : St} {go : Nat} {os : List Nat} {V U : World} (h : QM w pm q s go os V) (hU : MtB pm q s' U) (f : Fr (fun k => k = pm) V U) : QM w pm q s' go os U := by
  obtain ⟨m, o, n, bx, hm, ho, ne⟩ := h
  exact ⟨hU, (f.block go o.lt (fun e => ne e.symm)).trans o, n.then f (fun k hk => .inr (by omega)), (f.block _ (Array.getElem?_eq_some_iff.1 bx).1 (by omega)).trans bx, hm, ho, ne⟩
theorem QM.set {w : World} {pm : Nat} {q : Qt} {s : St} {go : Nat} {os : List Nat} {V : World} (h : QM w pm q s go os V) (i t : Nat) : QM w pm q s go (os.set i t) (V.setCell ⟨go, i, none⟩ (.int .i64 (t : Int))) := by
  obtain ⟨m, o, n, bx, hm, ho, ne⟩ := h
  have f : Fr (fun k => k = go) V (V.setCell ⟨go, i, none⟩ (.int .i64 (t : Int))) := Fr.setCell (Fr.refl (fun k => k = go) V) ⟨go, i, none⟩ _ (.inl rfl)
  exact ⟨m.kept f ne, o.set i t, n.then f (fun k hk => .inr (by omega)), (f.block _ (Array.getElem?_eq_some_iff.1 bx).1 (by omega)).trans bx, hm, ho, ne⟩
theorem QM.nw {w : World} {pm : Nat} {q : Qt} {s : St} {go : Nat} {os : List Nat} {V U : World} (h : QM w pm q s go os V) (k : Nw V U) : QM w pm q s go os U := ⟨k.heap h.m, k.heap h.o, h.n.trans k, k.heap h.bx, h.hm, h.ho, h.ne⟩
/-- With the document's meter. -/
structure QN (w : World) (pm : Nat) (q : Qt) (s : St) (go : Nat) (os : List Nat) (d : Nat) (sr : St) (V : World) : Prop where
  qm : QM w pm q s go os V
  r : RfB d q sr V
  hd : w.heap.size < d
  n1 : d ≠ pm
  n2 : d ≠ go
theorem QN.on {w : World} {pm : Nat} {q : Qt} {s : St} {go : Nat} {os : List Nat} {d : Nat} {sr s' : St} {V U : World} (h : QN w pm q s go os d sr V) (hU : RfB d q s' U) (f : Fr (fun k => k = d) V U) : QN w pm q s go os d s' U := by
  obtain ⟨⟨m, o, n, bx, hm, ho, ne⟩, r, hd, n1, n2⟩ := h
  exact ⟨⟨m.kept f (fun e => n1 e.symm), (f.block go o.lt (fun e => n2 e.symm)).trans o, n.then f (fun k hk => .inr (by omega)), (f.block _ (Array.getElem?_eq_some_iff.1 bx).1 (by omega)).trans bx, hm, ho, ne⟩, hU, hd, n1, n2⟩
theorem QN.nw {w : World} {pm : Nat} {q : Qt} {s : St} {go : Nat} {os : List Nat} {d : Nat} {sr : St} {V U : World} (h : QN w pm q s go os d sr V) (k : Nw V U) : QN w pm q s go os d sr U := ⟨h.qm.nw k, k.heap h.r, h.hd, h.n1, h.n2⟩
theorem QM.box {w : World} {pm : Nat} {q : Qt} {s : St} {go : Nat} {os : List Nat} {V : World} (h : QM w pm q s go os V) : V.cell? ⟨w.heap.size, 0, none⟩ = some (.int .i64 q.B) ∧ V.cell? ⟨w.heap.size, 1, none⟩ = some (.int .i64 q.E) ∧ V.cell? ⟨w.heap.size, 2, none⟩ = some (.int .i64 q.D) := (quota_row h.bx (Fr.refl _ _)).2
end Go.Proofs.Ytfjjgjkgicabjaa

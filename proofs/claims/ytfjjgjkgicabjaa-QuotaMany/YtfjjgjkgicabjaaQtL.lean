import Derived.Test.YtfjjgjkgicabjaaQtK
namespace Go.Proofs.Ytfjjgjkgicabjaa
open Go.RowKit Go.MuLone
set_option linter.unusedVariables false
/-- A pair as a call stands in it. -/
structure Pq (w : World) (pb p d : Nat) (q : Qt) (sm sr : St) (V : World) : Prop where
  pr : PrB pb (some ⟨p, 0, none⟩) (some ⟨d, 0, none⟩) V
  m : MtB p q sm V
  r : RfB d q sr V
  fr : Fr (fun k => k = p ∨ k = d) w V
theorem Pq.ne {w : World} {pb p d : Nat} {q : Qt} {sm sr : St} {V : World} (h : Pq w pb p d q sm sr V) : p ≠ d ∧ pb ≠ p ∧ pb ≠ d := by
  obtain ⟨h1, h2, h3, _⟩ := h
  unfold PrB at h1
  unfold MtB mtC at h2
  unfold RfB at h3
  refine ⟨?_, ?_, ?_⟩
  · rintro rfl; rw [h2] at h3; simp at h3
  · rintro rfl; rw [h2] at h1; simp at h1
  · rintro rfl; rw [h3] at h1; simp at h1
theorem Pr.pq {pb p d : Nat} {q : Qt} {s : St} {w : World} (h : Pr pb p d q s w) : Pq w pb p d q s s w := ⟨h.pr, h.m, h.r, Fr.refl _ _⟩
theorem Pq.back {w : World} {pb p d : Nat} {q : Qt} {s : St} {V : World} (h : Pq w pb p d q s s V) : Pr pb p d q s V := ⟨h.pr, h.m, h.r⟩
theorem prB_kept {pb : Nat} {x y : Option Addr} {w w' : World} {X : Nat → Prop} (h : PrB pb x y w) (f : Fr X w w') (hx : ¬ X pb) : PrB pb x y w' := (f.block pb (Array.getElem?_eq_some_iff.1 h).1 hx).trans h
/-- A call that turns the program's meter alone. -/
theorem Pq.mt {w : World} {pb p d : Nat} {q : Qt} {sm sr s' : St} {V U : World} (h : Pq w pb p d q sm sr V) (hm : MtB p q s' U) (f : Fr (fun k => k = p) V U) : Pq w pb p d q s' sr U := by
  obtain ⟨n1, n2, n3⟩ := h.ne
  exact ⟨prB_kept h.pr f n2, hm, h.r.kept f (fun e => n1 e.symm), h.fr.then f (fun i hi => .inl (.inl hi))⟩
theorem Pq.rf {w : World} {pb p d : Nat} {q : Qt} {sm sr s' : St} {V U : World} (h : Pq w pb p d q sm sr V) (hr : RfB d q s' U) (f : Fr (fun k => k = d) V U) : Pq w pb p d q sm s' U := by
  obtain ⟨n1, n2, n3⟩ := h.ne
  exact ⟨prB_kept h.pr f n3, h.m.kept f n1, hr, h.fr.then f (fun i hi => .inl (.inr hi))⟩
theorem Pq.nw {w : World} {pb p d : Nat} {q : Qt} {sm sr : St} {V U : World} (h : Pq w pb p d q sm sr V) (k : Nw V U) : Pq w pb p d q sm sr U := ⟨k.heap h.pr, k.heap h.m, k.heap h.r, h.fr.trans k.any⟩
theorem pq_cells {w : World} {pb p d : Nat} {q : Qt} {sm sr : St} {V : World} (h : Pq w pb p d q sm sr V) : V.cell? ⟨pb, 0, none⟩ = some (.pointer (some ⟨p, 0, none⟩)) ∧ V.cell? ⟨pb, 1, none⟩ = some (.pointer (some ⟨d, 0, none⟩)) := by
  have h := h.pr
  unfold PrB at h
  constructor <;> simp [World.cell?, h]
set_option maxHeartbeats 4000000 in
theorem tells_any (w : World) (pb p d : Nat) (q : Qt) (s : St) (h : Pr pb p d q s w) (hI : s.In q) (hq : q.Ok) :
    Calls Try.prog 9 #[.pointer (some ⟨pb, 0, none⟩)] w fun e w' => e = .returned (.bool true) ∧ Pr pb p d q s w' ∧ Fr (fun k => k = p ∨ k = d) w w' := by
  have HL : Hid (∀ V, Pq w pb p d q s s V → Calls Try.prog 14 #[.pointer (some ⟨p, 0, none⟩)] V fun r w' => r = .returned (.agg (q.left s).C) ∧ Hid (Pq w pb p d q s s w')) := fun V hV => (mleft_any V p q s hV.m hI hq).mono (fun e w' ⟨e1, e2, e3⟩ => ⟨e1, hV.mt e2 e3⟩)
  have HU : Hid (∀ V, Pq w pb p d q s s V → Calls Try.prog 15 #[.pointer (some ⟨p, 0, none⟩)] V fun r w' => r = .returned (.agg s.used.C) ∧ Hid (Pq w pb p d q s s w')) := fun V hV => (mused_any V p q s hV.m).mono (fun e w' ⟨e1, e2, e3⟩ => ⟨e1, hV.mt e2 e3⟩)
  have HL2 : Hid (∀ V, Pq w pb p d q s s V → Calls Try.prog 22 #[.pointer (some ⟨d, 0, none⟩)] V fun r w' => r = .returned (.agg (q.left s).C) ∧ Hid (Pq w pb p d q s s w')) := fun V hV => (rleft_any V d q s hV.r hI hq).mono (fun e w' ⟨e1, e2⟩ => ⟨e1, hV.nw e2⟩)
  have HU2 : Hid (∀ V, Pq w pb p d q s s V → Calls Try.prog 23 #[.pointer (some ⟨d, 0, none⟩)] V fun r w' => r = .returned (.agg s.used.C) ∧ Hid (Pq w pb p d q s s w')) := fun V hV => (rused_any V d q s hV.r).mono (fun e w' ⟨e1, e2⟩ => ⟨e1, hV.nw e2⟩)
  have HS : Hid (∀ V, Pq w pb p d q s s V → V.cell? ⟨pb, 0, none⟩ = some (.pointer (some ⟨p, 0, none⟩)) ∧ V.cell? ⟨pb, 1, none⟩ = some (.pointer (some ⟨d, 0, none⟩)) ∧ Hid (Pq w pb p d q s s V)) := fun V hV => ⟨(pq_cells hV).1, (pq_cells hV).2, hV⟩
  have H0 : Hid (Pq w pb p d q s s w) := h.pq
  have H0d : Hid (Pq w pb p d q s s w.drew) := h.pq.nw (Fr.refl _ _).drew
  clear h hI hq
  unfold Qt.left St.used Qt.C at *
  generalize q.B - s.b = l1 at *
  generalize q.E - s.n = l2 at *
  generalize hl3 : q.D = l3 at *
  clear hl3
  generalize hl4 : s.b = l4 at *
  clear hl4
  generalize hl5 : s.n = l5 at *
  clear hl5
  go_enter Try.func9, Try.ntmps9
  go_wp2_with fail
  go_region_held3 (fun V => V.cell? ⟨pb, 0, none⟩ = some (.pointer (some ⟨p, 0, none⟩)) ∧ V.cell? ⟨pb, 1, none⟩ = some (.pointer (some ⟨d, 0, none⟩)) ∧ Hid (Pq w pb p d q s s V))
    (first | exact HS.out _ H4.out | exact HS.out _ H3.out | exact HS.out _ H2.out | exact HS.out _ H1.out | exact HS.out _ H0.out | exact HS.out _ H0d.out)
    (first
      | (go_at_call 14; with_reducible refine (HL.out _ ?_).mono ?_; (first | exact H0d.out | exact H0.out); rintro e w1 ⟨rfl, H1⟩)
      | (go_at_call 22; with_reducible refine (HL2.out _ ?_).mono ?_; (first | exact H1.out); rintro e w2 ⟨rfl, H2⟩)
      | (go_at_call 15; with_reducible refine (HU.out _ ?_).mono ?_; (first | exact H2.out); rintro e w3 ⟨rfl, H3⟩)
      | (go_at_call 23; with_reducible refine (HU2.out _ ?_).mono ?_; (first | exact H3.out); rintro e w4 ⟨rfl, H4⟩))
  all_goals go_wp2_with fail
  go_ret
  exact ⟨rfl, H4.out.back, H4.out.fr⟩
/-! ### A step -/
def opC (k : Int) (e : En) : Array Value := #[.int .i64 k, .string (mk e.name), .int .i64 e.kind, .int .u32 e.mode, .int .u32 e.uid, .int .u32 e.gid, .int .i64 e.time, .int .i32 e.nano, .string e.user, .string e.group, .string e.link, .int .i64 e.size, .int .u8 e.typ]
def opS (q : Qt) (s : St) (k : Int) (e : En) : St := if k = 0 then tkS q s e else if k = 1 then bkS s e else s
theorem opS_in {q : Qt} {s : St} {k : Int} {e : En} (h : s.In q) : (opS q s k e).In q := by
  unfold opS
  split
  · exact tkS_in h
  · split
    · exact bkS_in h
    · exact h
structure Sp (w : World) (k : Int) (e : En) (pb p d : Nat) (q : Qt) (sm sr : St) (V : World) : Prop where
  op : V.heap[w.heap.size]? = some (.cells (opC k e) 40)
  pq : Pq w pb p d q sm sr V
theorem sp_cells {w : World} {k : Int} {e : En} {pb p d : Nat} {q : Qt} {sm sr : St} {V : World} (h : Sp w k e pb p d q sm sr V) : V.cell? ⟨pb, 0, none⟩ = some (.pointer (some ⟨p, 0, none⟩)) ∧ V.cell? ⟨pb, 1, none⟩ = some (.pointer (some ⟨d, 0, none⟩)) ∧ V.cell? ⟨w.heap.size, 1, none⟩ = some (.string (mk e.name)) ∧ V.cell? ⟨w.heap.size, 2, none⟩ = some (.int .i64 e.kind) ∧ V.cell? ⟨w.heap.size, 3, none⟩ = some (.int .u32 e.mode) ∧ V.cell? ⟨w.heap.size, 4, none⟩ = some (.int .u32 e.uid) ∧ V.cell? ⟨w.heap.size, 5, none⟩ = some (.int .u32 e.gid) ∧ V.cell? ⟨w.heap.size, 6, none⟩ = some (.int .i64 e.time) ∧ V.cell? ⟨w.heap.size, 7, none⟩ = some (.int .i32 e.nano) ∧ V.cell? ⟨w.heap.size, 8, none⟩ = some (.string e.user) ∧ V.cell? ⟨w.heap.size, 9, none⟩ = some (.string e.group) ∧ V.cell? ⟨w.heap.size, 10, none⟩ = some (.string e.link) ∧ V.cell? ⟨w.heap.size, 11, none⟩ = some (.int .i64 e.size) ∧ V.cell? ⟨w.heap.size, 12, none⟩ = some (.int .u8 e.typ) := by
  have hp := h.pq.pr
  have ho := h.op
  unfold PrB at hp
  unfold opC at ho
  refine ⟨?_, ?_, ?_, ?_, ?_, ?_, ?_, ?_, ?_, ?_, ?_, ?_, ?_, ?_⟩ <;> first | (simp [World.cell?, hp]; done) | (simp [World.cell?, ho]; done)
theorem sp_start {w : World} (k : Int) (e : En) {pb p d : Nat} {q : Qt} {s : St} (h : Pr pb p d q s w) : Sp w k e pb p d q s s (w.alloc (.cells (opC k e) 40)) := ⟨newHeapQ _ _, h.pq.nw ((Fr.refl _ _).alloc _)⟩
theorem sp_fr {w : World} {k : Int} {e : En} {pb p d : Nat} {q : Qt} {sm sr s1 s2 : St} {V U : World} {X : Nat → Prop} (h : Sp w k e pb p d q sm sr V) (h2 : Pq w pb p d q s1 s2 U) (f : Fr X V U) (hx : ¬ X w.heap.size) : Sp w k e pb p d q s1 s2 U := ⟨(f.block _ (Array.getElem?_eq_some_iff.1 h.op).1 hx).trans h.op, h2⟩
set_option maxHeartbeats 4000000 in
theorem step_any (w : World) (pb p d : Nat) (q : Qt) (s : St) (k : Int) (e : En) (h : Pr pb p d q s w) (hI : s.In q) (hq : q.Ok) (he : e.Ok) :
    Calls Try.prog 8 #[.pointer (some ⟨pb, 0, none⟩), .agg (opC k e)] w fun r w' => r = .returned (.bool true) ∧ Pr pb p d q (opS q s k e) w' ∧ Fr (fun k => k = p ∨ k = d) w w' := by
  have hpl : p < w.heap.size := h.m.lt
  have hdl : d < w.heap.size := h.r.lt
  have HS : Hid (∀ sm sr V, Sp w k e pb p d q sm sr V → (V.cell? ⟨pb, 0, none⟩ = some (.pointer (some ⟨p, 0, none⟩)) ∧ V.cell? ⟨pb, 1, none⟩ = some (.pointer (some ⟨d, 0, none⟩)) ∧ V.cell? ⟨w.heap.size, 1, none⟩ = some (.string (mk e.name)) ∧ V.cell? ⟨w.heap.size, 2, none⟩ = some (.int .i64 e.kind) ∧ V.cell? ⟨w.heap.size, 3, none⟩ = some (.int .u32 e.mode) ∧ V.cell? ⟨w.heap.size, 4, none⟩ = some (.int .u32 e.uid) ∧ V.cell? ⟨w.heap.size, 5, none⟩ = some (.int .u32 e.gid) ∧ V.cell? ⟨w.heap.size, 6, none⟩ = some (.int .i64 e.time) ∧ V.cell? ⟨w.heap.size, 7, none⟩ = some (.int .i32 e.nano) ∧ V.cell? ⟨w.heap.size, 8, none⟩ = some (.string e.user) ∧ V.cell? ⟨w.heap.size, 9, none⟩ = some (.string e.group) ∧ V.cell? ⟨w.heap.size, 10, none⟩ = some (.string e.link) ∧ V.cell? ⟨w.heap.size, 11, none⟩ = some (.int .i64 e.size) ∧ V.cell? ⟨w.heap.size, 12, none⟩ = some (.int .u8 e.typ))) := fun sm sr V hV => sp_cells hV
  have H0 : Hid (Sp w k e pb p d q s s (w.alloc (.cells (opC k e) 40))) := sp_start k e h
  have H0d : Hid (Sp w k e pb p d q s s (w.alloc (.cells (opC k e) 40)).drew) := sp_fr (sp_start k e h) ((sp_start k e h).pq.nw (Fr.refl _ _).drew) ((Fr.refl (fun _ => False) _).drew) (fun h => h)
  by_cases h0 : k = 0
  · have HO : Hid (opS q s k e = tkS q s e) := by show _ = _; unfold opS; rw [if_pos h0]
    have HT : Hid (∀ V, Sp w k e pb p d q s s V → Calls Try.prog 13 #[.pointer (some ⟨p, 0, none⟩), .agg e.C] V fun r w' => r = .returned (.int .i64 ((tkE q s e : Nat) : Int)) ∧ Hid (Sp w k e pb p d q (tkS q s e) s w')) := fun V hV => (mtake_any V p q s e hV.pq.m hI hq he).mono (fun r w' ⟨e1, e2, e3⟩ => ⟨e1, sp_fr hV (hV.pq.mt e2 e3) e3 (by omega)⟩)
    have HR : Hid (∀ V, Sp w k e pb p d q (tkS q s e) s V → Calls Try.prog 17 #[.pointer (some ⟨d, 0, none⟩), .agg e.C] V fun r w' => r = .returned (.int .i64 ((tkE q s e : Nat) : Int)) ∧ Hid (Sp w k e pb p d q (tkS q s e) (tkS q s e) w')) := fun V hV => (rtake_any V d q s e hV.pq.r hI hq he).mono (fun r w' ⟨e1, e2, e3⟩ => ⟨e1, sp_fr hV (hV.pq.rf e2 e3) e3 (by omega)⟩)
    have hd : (k == 0) = true := by rw [h0]; rfl
    clear h hI hq he hpl hdl
    rw [HO.out]
    clear HO
    generalize tkE q s e = t at *
    generalize tkS q s e = sT at *
    clear h0
    unfold opC En.C at *
    go_enter Try.func8, Try.ntmps8
    go_wp2_with fail
    go_region_held3 (fun V => V.cell? ⟨pb, 0, none⟩ = some (.pointer (some ⟨p, 0, none⟩)) ∧ V.cell? ⟨pb, 1, none⟩ = some (.pointer (some ⟨d, 0, none⟩)) ∧ V.cell? ⟨w.heap.size, 1, none⟩ = some (.string (mk e.name)) ∧ V.cell? ⟨w.heap.size, 2, none⟩ = some (.int .i64 e.kind) ∧ V.cell? ⟨w.heap.size, 3, none⟩ = some (.int .u32 e.mode) ∧ V.cell? ⟨w.heap.size, 4, none⟩ = some (.int .u32 e.uid) ∧ V.cell? ⟨w.heap.size, 5, none⟩ = some (.int .u32 e.gid) ∧ V.cell? ⟨w.heap.size, 6, none⟩ = some (.int .i64 e.time) ∧ V.cell? ⟨w.heap.size, 7, none⟩ = some (.int .i32 e.nano) ∧ V.cell? ⟨w.heap.size, 8, none⟩ = some (.string e.user) ∧ V.cell? ⟨w.heap.size, 9, none⟩ = some (.string e.group) ∧ V.cell? ⟨w.heap.size, 10, none⟩ = some (.string e.link) ∧ V.cell? ⟨w.heap.size, 11, none⟩ = some (.int .i64 e.size) ∧ V.cell? ⟨w.heap.size, 12, none⟩ = some (.int .u8 e.typ))
      (first | exact HS.out _ _ _ H2.out | exact HS.out _ _ _ H1.out | exact HS.out _ _ _ H0.out | exact HS.out _ _ _ H0d.out)
      (first
        | (go_at_call 13; with_reducible refine (HT.out _ ?_).mono ?_; (first | exact H0d.out | exact H0.out); rintro r w1 ⟨rfl, H1⟩)
        | (go_at_call 17; with_reducible refine (HR.out _ H1.out).mono ?_; rintro r w2 ⟨rfl, H2⟩))
    all_goals go_wp2_with fail
    go_ret
    exact ⟨by first | rfl | simp, H2.out.pq.back, H2.out.pq.fr⟩
  by_cases h1 : k = 1
  · have HO : Hid (opS q s k e = bkS s e) := by show _ = _; unfold opS; rw [if_neg h0, if_pos h1]
    have HT : Hid (∀ V, Sp w k e pb p d q s s V → Calls Try.prog 18 #[.pointer (some ⟨p, 0, none⟩), .agg e.C] V fun r w' => r = .returned (.int .i64 ((bkE s e : Nat) : Int)) ∧ Hid (Sp w k e pb p d q (bkS s e) s w')) := fun V hV => (mback_any V p q s e hV.pq.m hI hq he).mono (fun r w' ⟨e1, e2, e3⟩ => ⟨e1, sp_fr hV (hV.pq.mt e2 e3) e3 (by omega)⟩)
    have HR : Hid (∀ V, Sp w k e pb p d q (bkS s e) s V → Calls Try.prog 21 #[.pointer (some ⟨d, 0, none⟩), .agg e.C] V fun r w' => r = .returned (.int .i64 ((bkE s e : Nat) : Int)) ∧ Hid (Sp w k e pb p d q (bkS s e) (bkS s e) w')) := fun V hV => (rback_any V d q s e hV.pq.r hI hq he).mono (fun r w' ⟨e1, e2, e3⟩ => ⟨e1, sp_fr hV (hV.pq.rf e2 e3) e3 (by omega)⟩)
    have hd : (k == 0) = false := by rw [beq_eq_false_iff_ne]; exact h0
    have hd2 : (k == 1) = true := by rw [h1]; rfl
    clear h hI hq he hpl hdl
    rw [HO.out]
    clear HO
    generalize bkE s e = t at *
    generalize bkS s e = sT at *
    clear h0 h1
    unfold opC En.C at *
    go_enter Try.func8, Try.ntmps8
    go_wp2_with fail
    go_region_held3 (fun V => V.cell? ⟨pb, 0, none⟩ = some (.pointer (some ⟨p, 0, none⟩)) ∧ V.cell? ⟨pb, 1, none⟩ = some (.pointer (some ⟨d, 0, none⟩)) ∧ V.cell? ⟨w.heap.size, 1, none⟩ = some (.string (mk e.name)) ∧ V.cell? ⟨w.heap.size, 2, none⟩ = some (.int .i64 e.kind) ∧ V.cell? ⟨w.heap.size, 3, none⟩ = some (.int .u32 e.mode) ∧ V.cell? ⟨w.heap.size, 4, none⟩ = some (.int .u32 e.uid) ∧ V.cell? ⟨w.heap.size, 5, none⟩ = some (.int .u32 e.gid) ∧ V.cell? ⟨w.heap.size, 6, none⟩ = some (.int .i64 e.time) ∧ V.cell? ⟨w.heap.size, 7, none⟩ = some (.int .i32 e.nano) ∧ V.cell? ⟨w.heap.size, 8, none⟩ = some (.string e.user) ∧ V.cell? ⟨w.heap.size, 9, none⟩ = some (.string e.group) ∧ V.cell? ⟨w.heap.size, 10, none⟩ = some (.string e.link) ∧ V.cell? ⟨w.heap.size, 11, none⟩ = some (.int .i64 e.size) ∧ V.cell? ⟨w.heap.size, 12, none⟩ = some (.int .u8 e.typ))
      (first | exact HS.out _ _ _ H2.out | exact HS.out _ _ _ H1.out | exact HS.out _ _ _ H0.out | exact HS.out _ _ _ H0d.out)
      (first
        | (go_at_call 18; with_reducible refine (HT.out _ ?_).mono ?_; (first | exact H0d.out | exact H0.out); rintro r w1 ⟨rfl, H1⟩)
        | (go_at_call 21; with_reducible refine (HR.out _ H1.out).mono ?_; rintro r w2 ⟨rfl, H2⟩))
    all_goals go_wp2_with fail
    go_ret
    exact ⟨by first | rfl | simp, H2.out.pq.back, H2.out.pq.fr⟩
  have HO : Hid (opS q s k e = s) := by show _ = _; unfold opS; rw [if_neg h0, if_neg h1]
  have HT : Hid (∀ V, Sp w k e pb p d q s s V → Calls Try.prog 9 #[.pointer (some ⟨pb, 0, none⟩)] V fun r w' => r = .returned (.bool true) ∧ Hid (Pr pb p d q s w' ∧ Fr (fun k => k = p ∨ k = d) w w')) := fun V hV => (tells_any V pb p d q s hV.pq.back hI hq).mono (fun r w' ⟨e1, e2, e3⟩ => ⟨e1, e2, hV.pq.fr.trans e3⟩)
  have hd : (k == 0) = false := by rw [beq_eq_false_iff_ne]; exact h0
  have hd2 : (k == 1) = false := by rw [beq_eq_false_iff_ne]; exact h1
  clear h hI hq he hpl hdl
  rw [HO.out]
  clear HO h0 h1
  unfold opC at *
  go_enter Try.func8, Try.ntmps8
  go_wp2_with (go_at_call 9; with_reducible refine (HT.out _ H0.out).mono ?_; rintro r w1 ⟨rfl, H1⟩)
  go_ret
  exact ⟨rfl, H1.out.1, H1.out.2⟩
end Go.Proofs.Ytfjjgjkgicabjaa

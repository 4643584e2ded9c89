import Derived.Test.YtfjjgjkgicabjaaQtO
namespace Go.Proofs.Ytfjjgjkgicabjaa
open Go.RowKit Go.MuLone
set_option linter.unusedVariables false
/-- What made answers, whatever the quota. -/
theorem made_any (w : World) (q : Qt) (hq : q.Ok) :
    Calls Try.prog 7 #[.agg q.C] w fun e w' => ∃ pb x y, e = .returned (.tuple #[.pointer (some ⟨pb, 0, none⟩), .bool true]) ∧ PrB pb x y w' ∧ Nw w w' := by
  by_cases hc : q.can = true
  · refine (made_yes w q hq hc).mono ?_
    rintro e w' ⟨pb, p, d, e1, _, _, _, e2, e3⟩
    exact ⟨pb, _, _, e1, e2.pr, e3⟩
  · refine (made_no w q hq (by simpa using hc)).mono ?_
    rintro e w' ⟨pb, e1, _, e2, e3⟩
    exact ⟨pb, _, _, e1, e2, e3⟩
theorem prb_cells {pb : Nat} {x y : Option Addr} {w : World} (h : PrB pb x y w) : w.cell? ⟨pb, 0, none⟩ = some (.pointer x) ∧ w.cell? ⟨pb, 1, none⟩ = some (.pointer y) := by
  unfold PrB at h
  constructor <;> simp [World.cell?, h]
set_option maxHeartbeats 4000000 in
theorem qall_no1 (w : World) (q q2 : Qt) (hq : q.Ok) (hq2 : q2.Ok) (hc : q.can = false) (v2 v3 : Value) :
    Calls Try.prog 3 #[.agg q.C, .agg q2.C, v2, v3] w fun e w' => e = .returned (.bool true) ∧ Nw w w' := by
  have H1 : Hid (∀ V, V.heap[w.heap.size + 1]? = some (.cells q2.C 23) → Calls Try.prog 7 #[.agg q.C] V fun e w' => ∃ pb, e = .returned (.tuple #[.pointer (some ⟨pb, 0, none⟩), .bool true]) ∧ Hid (PrB pb none none w' ∧ Nw V w') ∧ w'.cell? ⟨w.heap.size + 1, 0, none⟩ = some (.int .i64 q2.B) ∧ w'.cell? ⟨w.heap.size + 1, 1, none⟩ = some (.int .i64 q2.E) ∧ w'.cell? ⟨w.heap.size + 1, 2, none⟩ = some (.int .i64 q2.D)) := fun V hV => (made_no V q hq hc).mono (fun e w' ⟨pb, e1, _, e2, e3⟩ => ⟨pb, e1, ⟨e2, e3⟩, (quota_row hV e3).2⟩)
  have H2 : Hid (∀ pb V, PrB pb none none V → Calls Try.prog 7 #[.agg q2.C] V fun e w' => ∃ pb2, e = .returned (.tuple #[.pointer (some ⟨pb2, 0, none⟩), .bool true]) ∧ w'.cell? ⟨pb, 0, none⟩ = some (.pointer none) ∧ Hid (Nw V w')) := fun pb V hV => (made_any V q2 hq2).mono (fun e w' ⟨pb2, x, y, e1, e2, e3⟩ => ⟨pb2, e1, e3.cell (prb_cells hV).1, e3⟩)
  clear hq hq2 hc
  unfold Qt.C at *
  go_enter Try.func3, Try.ntmps3
  go_wp2_with (go_at_call 7; first
    | (with_reducible refine (H1.out _ (two_rows _ _ _).2).mono ?_; rintro e w1 ⟨pb, rfl, K1, r1, r2, r3⟩)
    | (with_reducible refine (H2.out pb _ K1.out.1).mono ?_; rintro e w2 ⟨pb2, rfl, t1, K2⟩))
  go_ret
  exact ⟨rfl, ((((Fr.refl _ _).alloc _).alloc _).trans K1.out.2).trans K2.out⟩
set_option maxHeartbeats 4000000 in
theorem qall_no2 (w : World) (q q2 : Qt) (hq : q.Ok) (hq2 : q2.Ok) (hc : q.can = true) (hc2 : q2.can = false) (v2 v3 : Value) :
    Calls Try.prog 3 #[.agg q.C, .agg q2.C, v2, v3] w fun e w' => e = .returned (.bool true) ∧ Nw w w' := by
  have H1 : Hid (∀ V, V.heap[w.heap.size + 1]? = some (.cells q2.C 23) → Calls Try.prog 7 #[.agg q.C] V fun e w' => ∃ pb p d, e = .returned (.tuple #[.pointer (some ⟨pb, 0, none⟩), .bool true]) ∧ Hid (PrB pb (some ⟨p, 0, none⟩) (some ⟨d, 0, none⟩) w' ∧ Nw V w') ∧ w'.cell? ⟨w.heap.size + 1, 0, none⟩ = some (.int .i64 q2.B) ∧ w'.cell? ⟨w.heap.size + 1, 1, none⟩ = some (.int .i64 q2.E) ∧ w'.cell? ⟨w.heap.size + 1, 2, none⟩ = some (.int .i64 q2.D)) := fun V hV => (made_yes V q hq hc).mono (fun e w' ⟨pb, p, d, e1, _, _, _, e2, e3⟩ => ⟨pb, p, d, e1, ⟨e2.pr, e3⟩, (quota_row hV e3).2⟩)
  have H2 : Hid (∀ pb p d V, PrB pb (some ⟨p, 0, none⟩) (some ⟨d, 0, none⟩) V → Calls Try.prog 7 #[.agg q2.C] V fun e w' => ∃ pb2, e = .returned (.tuple #[.pointer (some ⟨pb2, 0, none⟩), .bool true]) ∧ w'.cell? ⟨pb, 0, none⟩ = some (.pointer (some ⟨p, 0, none⟩)) ∧ w'.cell? ⟨pb2, 0, none⟩ = some (.pointer none) ∧ Hid (Nw V w')) := fun pb p d V hV => (made_no V q2 hq2 hc2).mono (fun e w' ⟨pb2, e1, _, e2, e3⟩ => ⟨pb2, e1, e3.cell (prb_cells hV).1, (prb_cells e2).1, e3⟩)
  clear hq hq2 hc hc2
  unfold Qt.C at *
  go_enter Try.func3, Try.ntmps3
  go_wp2_with (go_at_call 7; first
    | (with_reducible refine (H1.out _ (two_rows _ _ _).2).mono ?_; rintro e w1 ⟨pb, p, d, rfl, K1, r1, r2, r3⟩)
    | (with_reducible refine (H2.out pb p d _ K1.out.1).mono ?_; rintro e w2 ⟨pb2, rfl, t1, t2, K2⟩))
  go_ret
  exact ⟨rfl, ((((Fr.refl _ _).alloc _).alloc _).trans K1.out.2).trans K2.out⟩
/-- Two pairs, apart. -/
structure QA (w : World) (pb p d pb2 p2 d2 : Nat) (q q2 : Qt) (s s2 : St) (V : World) : Prop where
  a : Pr pb p d q s V
  b : Pr pb2 p2 d2 q2 s2 V
  n : Nw w V
  i : s.In q
  i2 : s2.In q2
  h1 : w.heap.size ≤ p
  h2 : w.heap.size ≤ d
  h3 : w.heap.size ≤ p2
  h4 : w.heap.size ≤ d2
  lt : ∃ m, pb < m ∧ p < m ∧ d < m ∧ m ≤ pb2 ∧ m ≤ p2 ∧ m ≤ d2
theorem pr_kept {pb p d : Nat} {q : Qt} {s : St} {V U : World} {X : Nat → Prop} (h : Pr pb p d q s V) (f : Fr X V U) (h1 : ¬ X pb) (h2 : ¬ X p) (h3 : ¬ X d) : Pr pb p d q s U := ⟨prB_kept h.pr f h1, h.m.kept f h2, h.r.kept f h3⟩
theorem QA.on1 {w : World} {pb p d pb2 p2 d2 : Nat} {q q2 : Qt} {s s2 s' : St} {V U : World} (h : QA w pb p d pb2 p2 d2 q q2 s s2 V) (hU : Pr pb p d q s' U) (hi : s'.In q) (f : Fr (fun k => k = p ∨ k = d) V U) : QA w pb p d pb2 p2 d2 q q2 s' s2 U := by
  obtain ⟨a, b, n, i, i2, h1, h2, h3, h4, m, m1, m2, m3, m4, m5, m6⟩ := h
  exact ⟨hU, pr_kept b f (by omega) (by omega) (by omega), n.then f (fun k hk => .inr (by rcases hk with e | e <;> omega)), hi, i2, h1, h2, h3, h4, m, m1, m2, m3, m4, m5, m6⟩
theorem QA.on2 {w : World} {pb p d pb2 p2 d2 : Nat} {q q2 : Qt} {s s2 s' : St} {V U : World} (h : QA w pb p d pb2 p2 d2 q q2 s s2 V) (hU : Pr pb2 p2 d2 q2 s' U) (hi : s'.In q2) (f : Fr (fun k => k = p2 ∨ k = d2) V U) : QA w pb p d pb2 p2 d2 q q2 s s' U := by
  obtain ⟨a, b, n, i, i2, h1, h2, h3, h4, m, m1, m2, m3, m4, m5, m6⟩ := h
  exact ⟨pr_kept a f (by omega) (by omega) (by omega), hU, n.then f (fun k hk => .inr (by rcases hk with e | e <;> omega)), i, hi, h1, h2, h3, h4, m, m1, m2, m3, m4, m5, m6⟩
theorem In0 {q : Qt} (h : q.can = true) : St.In q ⟨0, 0⟩ := by
  obtain ⟨h1, h2, h3⟩ := can_of h
  exact ⟨by decide, h1, by decide, h2⟩
end Go.Proofs.Ytfjjgjkgicabjaa

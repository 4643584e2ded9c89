import Derived.Test.YtoplhkpbicgceaaLzD
import Derived.Laws.EntriesVeiled
namespace Go.Proofs.Ytoplhkpbicgceaa
open Go.RowKit
set_option linter.unusedVariables false
theorem new_heap (w : World) (o : Obj) : (w.alloc o).heap[w.heap.size]? = some o := by
  show (w.heap.push _)[w.heap.size]? = _
  simp
theorem new_cell (w : World) (cs : Array Value) (t : TypeId) (j : Nat) (v : Value) (h : cs[j]? = some v) : (w.alloc (.cells cs t)).cell? ⟨w.heap.size, j, none⟩ = some v := by
  simp only [World.cell?, new_heap]; exact h
theorem new_frozen (w : World) (cs : Array Value) (t : TypeId) (j : Nat) : (w.alloc (.cells cs t)).frozen? ⟨w.heap.size, j, none⟩ = false := by
  simp only [World.frozen?, new_heap]; simp
/-- One that is told of sequences: what holds of it while it has taken s, with the blocks of K left alone. -/
structure Tkr {σ : Type} (T : Tk σ) (D : Nat) (ty : TypeId) (v : Value) (fR fP fC fM fE : Nat) (TI : σ → (Nat → Prop) → World → Prop) : Prop where
  mR : ∀ w, (method 182 ty v "satchel/lz.room").run Try.prog w = .ok (fR, v) w
  mP : ∀ w, (method 182 ty v "satchel/lz.plain").run Try.prog w = .ok (fP, v) w
  mC : ∀ w, (method 182 ty v "satchel/lz.reaches").run Try.prog w = .ok (fC, v) w
  mM : ∀ w, (method 182 ty v "satchel/lz.match").run Try.prog w = .ok (fM, v) w
  mE : ∀ w, (method 182 ty v "satchel/lz.end").run Try.prog w = .ok (fE, v) w
  eR : ∀ args w, (callFunc fR args).run Try.prog w = .ok (.enter fR args) w
  eP : ∀ args w, (callFunc fP args).run Try.prog w = .ok (.enter fP args) w
  eC : ∀ args w, (callFunc fC args).run Try.prog w = .ok (.enter fC args) w
  eM : ∀ args w, (callFunc fM args).run Try.prog w = .ok (.enter fM args) w
  eE : ∀ args w, (callFunc fE args).run Try.prog w = .ok (.enter fE args) w
  grow : ∀ {s K K' w w'}, TI s K w → Nw w w' → (∀ k, K' k → K k ∨ w.heap.size ≤ k) → TI s K' w'
  keep : ∀ {s} {K : Nat → Prop} {X : Nat → Prop} {w w'}, TI s K w → Fr X w w' → (∀ k, X k → K k ∧ D ≤ k) → TI s K w'
  room : ∀ {s K w} (n : Nat), TI s K w → n < 4611686018427387904 → Calls Try.prog fR #[v, .int .i64 n] w fun e w' => e = .returned (.bool (T.room s n)) ∧ Nw w w'
  plain : ∀ {s} {K : Nat → Prop} {w} {u : Value} {p : List By}, TI s K w → (∀ k, k < D → K k) → (∀ k, K k → k < w.heap.size) → Sl (fun k => D ≤ k) u p w → p.length < 4611686018427387904 → T.room s p.length = true → Calls Try.prog fP #[v, u] w fun e w' => (∃ r, e = .returned r) ∧ TI (T.plain s p) K w' ∧ Fr (fun k => ¬ K k) w w'
  reaches : ∀ {s K w} (n : Nat), TI s K w → n < 65536 → Calls Try.prog fC #[v, .int .i64 n] w fun e w' => e = .returned (.bool (T.reaches s n)) ∧ Nw w w'
  mat : ∀ {s} {K : Nat → Prop} {w} (back n : Nat), TI s K w → (∀ k, k < D → K k) → (∀ k, K k → k < w.heap.size) → 1 ≤ back → back < 65536 → n < 4611686018427387904 → T.reaches s back = true → T.room s n = true → Calls Try.prog fM #[v, .int .i64 back, .int .i64 n] w fun e w' => (∃ r, e = .returned r) ∧ TI (T.mat s back n) K w' ∧ Fr (fun k => ¬ K k) w w'
  fin : ∀ {s} {K : Nat → Prop} {w}, TI s K w → (∀ k, k < D → K k) → (∀ k, K k → k < w.heap.size) → Calls Try.prog fE #[v] w fun e w' => (∃ r, e = .returned r) ∧ TI (T.fin s) K w' ∧ Fr (fun k => ¬ K k) w w'
/-- The blocks that are left alone. -/
structure KK (K : Nat → Prop) (D B1 B2 B3 : Nat) (w : World) : Prop where
  d : ∀ k, k < D → K k
  b1 : K B1
  b2 : K B2
  b3 : K B3
  lt : ∀ k, K k → k < w.heap.size
end Go.Proofs.Ytoplhkpbicgceaa

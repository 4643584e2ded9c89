import Derived.Test.YtffhpoilifgcdaaDoorVao
import Derived.Laws.EntriesVeiled
namespace Go.Proofs.YtffhpoilifgcdaaDoor
open Go.RowKit
set_option linter.unusedVariables false
theorem new_heap (w : World) (o : Obj) : (w.alloc o).heap[w.heap.size]? = some o := by
  show (w.heap.push _)[w.heap.size]? = _
  simp
theorem new_cell (w : World) (cs : Array Value) (t : TypeId) (j : Nat) (v : Value) (h : cs[j]? = some v) : (w.alloc (.cells cs t)).cell? ⟨w.heap.size, j, none⟩ = some v := by
  simp only [World.cell?, new_heap]; exact h
theorem new_frozen (w : World) (cs : Array Value) (t : TypeId) (j : Nat) : (w.alloc (.cells cs t)).frozen? ⟨w.heap.size, j, none⟩ = false := by
  simp only [World.frozen?, new_heap]; simp
/-- One that is told of sequences: what holds of it while it has taken s, with the blocks of K left alone. -/
structure Tkr {σ : Type} (T : Tk σ) (D : Nat) (ty : TypeId) (v : Value) (fR fP fC fM fE : Nat) (TI : σ → (Nat → Prop) → World → Prop) : Prop where
  mR : ∀ w, (method 237 ty v "satchel/lz.room").run Tryd.prog w = .ok (fR, v) w
  mP : ∀ w, (method 237 ty v "satchel/lz.plain").run Tryd.prog w = .ok (fP, v) w
  mC : ∀ w, (method 237 ty v "satchel/lz.reaches").run Tryd.prog w = .ok (fC, v) w
  mM : ∀ w, (method 237 ty v "satchel/lz.match").run Tryd.prog w = .ok (fM, v) w
  mE : ∀ w, (method 237 ty v "satchel/lz.end").run Tryd.prog w = .ok (fE, v) w
  eR : ∀ args w, (callFunc fR args).run Tryd.prog w = .ok (.enter fR args) w
  eP : ∀ args w, (callFunc fP args).run Tryd.prog w = .ok (.enter fP args) w
  eC : ∀ args w, (callFunc fC args).run Tryd.prog w = .ok (.enter fC args) w
  eM : ∀ args w, (callFunc fM args).run Tryd.prog w = .ok (.enter fM args) w
  eE : ∀ args w, (callFunc fE args).run Tryd.prog w = .ok (.enter fE args) w
  grow : ∀ {s K K' w w'}, TI s K w → Nw w w' → (∀ k, K' k → K k ∨ w.heap.size ≤ k) → TI s K' w'
  keep : ∀ {s} {K : Nat → Prop} {X : Nat → Prop} {w w'}, TI s K w → Fr X w w' → (∀ k, X k → K k ∧ D ≤ k) → TI s K w'
  room : ∀ {s K w} (n : Nat), TI s K w → n < 4611686018427387904 → Calls Tryd.prog fR #[v, .int .i64 n] w fun e w' => e = .returned (.bool (T.room s n)) ∧ Nw w w'
  plain : ∀ {s} {K : Nat → Prop} {w} {u : Value} {p : List By}, TI s K w → (∀ k, k < D → K k) → (∀ k, K k → k < w.heap.size) → Sl (fun k => D ≤ k) u p w → p.length < 4611686018427387904 → T.room s p.length = true → Calls Tryd.prog fP #[v, u] w fun e w' => (∃ r, e = .returned r) ∧ TI (T.plain s p) K w' ∧ Fr (fun k => ¬ K k) w w'
  reaches : ∀ {s K w} (n : Nat), TI s K w → n < 65536 → Calls Tryd.prog fC #[v, .int .i64 n] w fun e w' => e = .returned (.bool (T.reaches s n)) ∧ Nw w w'
  mat : ∀ {s} {K : Nat → Prop} {w} (back n : Nat), TI s K w → (∀ k, k < D → K k) → (∀ k, K k → k < w.heap.size) → 1 ≤ back → back < 65536 → n < 4611686018427387904 → T.reaches s back = true → T.room s n = true → Calls Tryd.prog fM #[v, .int .i64 back, .int .i64 n] w fun e w' => (∃ r, e = .returned r) ∧ TI (T.mat s back n) K w' ∧ Fr (fun k => ¬ K k) w w'
  fin : ∀ {s} {K : Nat → Prop} {w}, TI s K w → (∀ k, k < D → K k) → (∀ k, K k → k < w.heap.size) → Calls Tryd.prog fE #[v] w fun e w' => (∃ r, e = .returned r) ∧ TI (T.fin s) K w' ∧ Fr (fun k => ¬ K k) w w'
/-- The blocks that are left alone. -/
structure KK (K : Nat → Prop) (D B1 B2 B3 : Nat) (w : World) : Prop where
  d : ∀ k, k < D → K k
  b1 : K B1
  b2 : K B2
  b3 : K B3
  lt : ∀ k, K k → k < w.heap.size
end Go.Proofs.YtffhpoilifgcdaaDoor

namespace Go.Proofs.YtffhpoilifgcdaaDoor
open Go.RowKit
set_option linter.unusedVariables false
/-- A sequence's head, as begin tells it: where Plain begins, where it ends, whether it is numbered. -/
def beg (b : List By) (i : Nat) : Nat × Nat × Bool :=
  match b.drop i with
  | [] => (0, 0, false)
  | tok :: r => match num (tok.toNat / 16) r with
    | none => (b.length, b.length, false)
    | some (n, k) => (i + 1 + k, i + 1 + k + n, true)
def Begd (b : List By) (i : Nat) (w : World) (e : Ending) (w' : World) : Prop :=
  e = .returned (.agg #[.int .i64 i, .int .i64 (beg b i).1, .int .i64 (beg b i).2.1, .bool (beg b i).2.2]) ∧ Nw w w'
theorem In.nw {a : Option Addr} {c : Nat} {b : List By} {w w' : World} (h : In a c b w) (f : Nw w w') : In a c b w' := ⟨h.1, h.2.1, h.2.2.1, fun hb => by
  obtain ⟨g, o, h1, h2⟩ := h.2.2.2 hb
  exact ⟨g, o, h1, h2.nw f⟩⟩
end Go.Proofs.YtffhpoilifgcdaaDoor

namespace Go.Proofs.YtffhpoilifgcdaaDoor
open Go.RowKit
set_option linter.unusedVariables false
/-- A match, as the document's match tells it: back, length, where it ends, why not. -/
def mtc (b : List By) (lo i : Nat) : Nat × Nat × Nat × Nat :=
  match b.drop i with
  | x :: y :: r => if x.toNat + 256 * y.toNat = 0 then (0, 0, i, 30) else match num lo r with
    | none => (0, 0, b.length, 4)
    | some (n, k) => (x.toNat + 256 * y.toNat, n + 4, i + 2 + k, 0)
  | _ => (0, 0, b.length, 4)
def Mtcd (r : Nat × Nat × Nat × Nat) (w : World) (e : Ending) (w' : World) : Prop :=
  e = .returned (.tuple #[.int .i64 r.1, .int .i64 r.2.1, .int .i64 r.2.2.1, .int .i64 r.2.2.2]) ∧ Nw w w'
end Go.Proofs.YtffhpoilifgcdaaDoor

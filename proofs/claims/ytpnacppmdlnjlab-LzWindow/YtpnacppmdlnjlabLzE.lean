import Derived.Test.YtpnacppmdlnjlabLzD
import Derived.Laws.EntriesVeiled
namespace Go.Proofs.Ytpnacppmdlnjlab
open Go.RowKit
set_option linter.unusedVariables false
/-- The struct of the ways to read. -/
def rdsV (B1 B2 B3 L : Nat) : List Value := [.int .i64 L, .func (.func 21) #[] #[.pointer (some ⟨B2, 0, none⟩)], .func (.func 19) #[] #[.pointer (some ⟨B1, 0, none⟩), .pointer (some ⟨B2, 0, none⟩)], .func (.func 20) #[] #[.pointer (some ⟨B3, 0, none⟩)]]
theorem new_heap (w : World) (o : Obj) : (w.alloc o).heap[w.heap.size]? = some o := by
  show (w.heap.push _)[w.heap.size]? = _
  simp
theorem new_cell (w : World) (cs : Array Value) (t : TypeId) (j : Nat) (v : Value) (h : cs[j]? = some v) : (w.alloc (.cells cs t)).cell? ⟨w.heap.size, j, none⟩ = some v := by
  simp only [World.cell?, new_heap]; exact h
theorem new_frozen (w : World) (cs : Array Value) (t : TypeId) (j : Nat) : (w.alloc (.cells cs t)).frozen? ⟨w.heap.size, j, none⟩ = false := by
  simp only [World.frozen?, new_heap]; simp
set_option maxHeartbeats 4000000 in
theorem readsOf_any (D : Nat) (a : Option Addr) (c : Nat) (b : List By) (w : World) (hD : D ≤ w.heap.size) (hb : b ≠ [] → ∃ g o, a = some ⟨g, o, none⟩ ∧ g < D ∧ Rd g o b w) (hc : b.length ≤ c) (hc2 : c < 9223372036854775808) (hs : b.length ≤ 140737488351232) :
    Calls Try.prog 11 #[.slice a b.length c] w fun e w' => ∃ B1 B2 B3, e = .returned (.agg (rdsV B1 B2 B3 b.length).toArray) ∧ Nw w w' ∧ Rds D B1 B2 B3 a c b 0 w' ∧ w.heap.size ≤ B1 ∧ w.heap.size ≤ B2 ∧ w.heap.size ≤ B3 := by
  obtain ⟨P, hP⟩ : ∃ P : Ending → World → Prop, P = fun e w' => ∃ B1 B2 B3, e = .returned (.agg (rdsV B1 B2 B3 b.length).toArray) ∧ Nw w w' ∧ Rds D B1 B2 B3 a c b 0 w' ∧ w.heap.size ≤ B1 ∧ w.heap.size ≤ B2 ∧ w.heap.size ≤ B3 := ⟨_, rfl⟩
  rw [← hP]
  have hP' : Hid (P = fun e w' => ∃ B1 B2 B3, e = .returned (.agg (rdsV B1 B2 B3 b.length).toArray) ∧ Nw w w' ∧ Rds D B1 B2 B3 a c b 0 w' ∧ w.heap.size ≤ B1 ∧ w.heap.size ≤ B2 ∧ w.heap.size ≤ B3) := hP
  have hb' : Hid (b ≠ [] → ∃ g o, a = some ⟨g, o, none⟩ ∧ g < D ∧ Rd g o b w) := hb
  clear hP hb
  have hmf : ∀ (fn : Fn) (first cap : Array Value) (w : World), (Instr.makeFunc fn first cap).run Try.prog w = .ok (.func fn first cap) w := fun _ _ _ _ => rfl
  go_enter Try.func11, Try.ntmps11
  go_wp2
  rw [hP'.out]
  go_returns
  refine ⟨w.heap.size, w.heap.size + 1 + 1, w.heap.size + 1 + 1 + 1, rfl, ?_, ?_, by omega, by omega, by omega⟩
  · exact ((((Fr.refl _ _).alloc _).alloc _).alloc _).alloc _
  · generalize hW1 : w.alloc (.cells #[.slice a b.length c] 22) = W1
    have k1 : W1.cell? ⟨w.heap.size, 0, none⟩ = some (.slice a b.length c) := by rw [← hW1]; exact new_cell _ _ _ _ _ rfl
    have s1 : W1.heap.size = w.heap.size + 1 := by rw [← hW1]; simp
    have n1 : Nw w W1 := by rw [← hW1]; exact (Fr.refl _ _).alloc _
    generalize hW2 : W1.alloc (.cells (rdsV w.heap.size (w.heap.size + 1 + 1) (w.heap.size + 1 + 1 + 1) b.length).toArray 44) = W2
    have s2 : W2.heap.size = w.heap.size + 1 + 1 := by rw [← hW2]; simp [s1]
    have n2 : Nw W1 W2 := by rw [← hW2]; exact (Fr.refl _ _).alloc _
    have e2 : W1.alloc (.cells #[.int .i64 b.length, .func (.func 21) #[] #[.pointer (some ⟨w.heap.size + 1 + 1, 0, none⟩)], .func (.func 19) #[] #[.pointer (some ⟨w.heap.size, 0, none⟩), .pointer (some ⟨w.heap.size + 1 + 1, 0, none⟩)], .func (.func 20) #[] #[.pointer (some ⟨w.heap.size + 1 + 1 + 1, 0, none⟩)]] 44) = W2 := hW2
    rw [e2]
    generalize hW3 : W2.alloc (.cells #[.int .i64 0] 3) = W3
    have s3 : W3.heap.size = w.heap.size + 1 + 1 + 1 := by rw [← hW3]; simp [s2]
    have n3 : Nw W2 W3 := by rw [← hW3]; exact (Fr.refl _ _).alloc _
    have k3 : W3.cell? ⟨w.heap.size + 1 + 1, 0, none⟩ = some (.int .i64 0) := by rw [← hW3, ← s2]; exact new_cell _ _ _ _ _ rfl
    have f3 : W3.frozen? ⟨w.heap.size + 1 + 1, 0, none⟩ = false := by rw [← hW3, ← s2]; exact new_frozen _ _ _ _
    generalize hW4 : W3.alloc _ = W4
    have n4 : Nw W3 W4 := by rw [← hW4]; exact (Fr.refl _ _).alloc _
    refine ⟨((n2.trans n3).trans n4).cell k1, n4.cell k3, (n4.frozen (p := ⟨w.heap.size + 1 + 1, 0, none⟩) (by simp only [s3]; omega) (fun h => h)).trans f3, ?_, fun hb => ?_, Nat.zero_le _, hc, hc2, hs, by omega, by omega, by omega⟩
    · rw [← hW4, ← s3]; exact new_cell _ _ _ _ _ rfl
    · obtain ⟨g, o, q1, q2, q3⟩ := hb'.out hb
      exact ⟨g, o, q1, q2, q3.nw (((n1.trans n2).trans n3).trans n4)⟩
/-- One that is told of sequences: what holds of it while it has taken s, with the blocks of K left alone. -/
structure Tkr {σ : Type} (T : Tk σ) (D : Nat) (ty : TypeId) (v : Value) (fR fP fC fM fE : Nat) (TI : σ → (Nat → Prop) → World → Prop) : Prop where
  mR : ∀ w, (method 185 ty v "satchel/lz.room").run Try.prog w = .ok (fR, v) w
  mP : ∀ w, (method 185 ty v "satchel/lz.plain").run Try.prog w = .ok (fP, v) w
  mC : ∀ w, (method 185 ty v "satchel/lz.reaches").run Try.prog w = .ok (fC, v) w
  mM : ∀ w, (method 185 ty v "satchel/lz.match").run Try.prog w = .ok (fM, v) w
  mE : ∀ w, (method 185 ty v "satchel/lz.end").run Try.prog w = .ok (fE, v) w
  eR : ∀ args w, (callFunc fR args).run Try.prog w = .ok (.enter fR args) w
  eP : ∀ args w, (callFunc fP args).run Try.prog w = .ok (.enter fP args) w
  eC : ∀ args w, (callFunc fC args).run Try.prog w = .ok (.enter fC args) w
  eM : ∀ args w, (callFunc fM args).run Try.prog w = .ok (.enter fM args) w
  eE : ∀ args w, (callFunc fE args).run Try.prog w = .ok (.enter fE args) w
  grow : ∀ {s K K' w w'}, TI s K w → Nw w w' → (∀ k, K' k → K k ∨ w.heap.size ≤ k) → TI s K' w'
  keep : ∀ {s} {K : Nat → Prop} {X : Nat → Prop} {w w'}, TI s K w → Fr X w w' → (∀ k, X k → K k ∧ D ≤ k) → TI s K w'
  room : ∀ {s K w} (n : Nat), TI s K w → n < 4611686018427387904 → Calls Try.prog fR #[v, .int .i64 n] w fun e w' => e = .returned (.bool (T.room s n)) ∧ Nw w w'
  plain : ∀ {s} {K : Nat → Prop} {w} {u : Value} {p : List By}, TI s K w → (∀ k, k < D → K k) → (∀ k, K k → k < w.heap.size) → Sl (fun k => D ≤ k) u p w → p.length < 4611686018427387904 → T.room s p.length = true → Calls Try.prog fP #[v, u] w fun e w' => (∃ r, e = .returned r) ∧ TI (T.plain s p) K w' ∧ Fr (fun k => ¬ K k) w w'
  reaches : ∀ {s K w} (n : Nat), TI s K w → n < 65536 → Calls Try.prog fC #[v, .int .i64 n] w fun e w' => e = .returned (.bool (T.reaches s n)) ∧ Nw w w'
  mat : ∀ {s} {K : Nat → Prop} {w} (back n : Nat), TI s K w → (∀ k, k < D → K k) → (∀ k, K k → k < w.heap.size) → 1 ≤ back → back < 65536 → n < 4611686018427387904 → T.reaches s back = true → T.room s n = true → Calls Try.prog fM #[v, .int .i64 back, .int .i64 n] w fun e w' => (∃ r, e = .returned r) ∧ TI (T.mat s back n) K w' ∧ Fr (fun k => ¬ K k) w w'
  fin : ∀ {s} {K : Nat → Prop} {w}, TI s K w → (∀ k, k < D → K k) → (∀ k, K k → k < w.heap.size) → Calls Try.prog fE #[v] w fun e w' => (∃ r, e = .returned r) ∧ TI (T.fin s) K w' ∧ Fr (fun k => ¬ K k) w w'
/-- The blocks that are left alone. -/
structure KK (K : Nat → Prop) (D B1 B2 B3 : Nat) (w : World) : Prop where
  d : ∀ k, k < D → K k
  b1 : K B1
  b2 : K B2
  b3 : K B3
  lt : ∀ k, K k → k < w.heap.size
/-- What a step of the scan answers. -/
def Stepd {σ : Type} (TI : σ → (Nat → Prop) → World → Prop) (D B1 B2 B3 : Nat) (a : Option Addr) (c : Nat) (b : List By) (K : Nat → Prop) (r : Pt σ) (w : World) (e : Ending) (w' : World) : Prop :=
  Fr (fun k => ¬ K k ∨ k = B2) w w' ∧ match r with
  | .bad x y => e = .returned (.tuple #[.int .i64 x, .int .i64 y]) ∧ y ≠ 0
  | .ok r s => e = .returned (.tuple #[.int .i64 0, .int .i64 0]) ∧ ∃ i, r = b.drop i ∧ Rds D B1 B2 B3 a c b i w' ∧ TI s K w'
end Go.Proofs.Ytpnacppmdlnjlab

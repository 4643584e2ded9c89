import Derived.Test.YtfjjgjkgicabjaaPvB
import Derived.Test.YtfjjgjkgicabjaaPvD
import Derived.Conc.MuLone
namespace Go.Proofs.Ytfjjgjkgicabjaa
open Go.RowKit Go.MuLone
set_option linter.unusedVariables false

abbrev Try.muLink : Go.Conc.Locks.MuLink := { lock := 25, unlock := 26, ilock := 31, iunlock := 32, lockSlow := 40, unlockSlow := 43, disable := 36, enable := 38, acquire := 39, relMerge := 41, cas32 := 37, add32 := 42, tMutex := 63, tIMutex := 61, tPMutex := 73, tPIMutex := 76, tPI32 := 78, tUP := 80, tNoCopy := 59, tU32 := 34 }
theorem Try.muLib : Go.Conc.Locks.MuLib Try.prog Try.muLink :=
  ⟨Try.func25, Try.func26, Try.func31, Try.func32, Try.func36, Try.func38, Try.func39, Try.func41, Try.func37, Try.func42, Try.underlying61, Try.runUnderlying61, Try.sizeOf61, Try.isAgg61, Try.zeroValue61, Try.underlying63, Try.runUnderlying63, Try.sizeOf63, Try.isAgg63, Try.zeroValue63, Try.underlying73, Try.runUnderlying73, Try.sizeOf73, Try.isAgg73, Try.zeroValue73, Try.underlying76, Try.runUnderlying76, Try.sizeOf76, Try.isAgg76, Try.zeroValue76, Try.underlying78, Try.runUnderlying78, Try.sizeOf78, Try.isAgg78, Try.zeroValue78, Try.underlying80, Try.runUnderlying80, Try.sizeOf80, Try.isAgg80, Try.zeroValue80, Try.underlying59, Try.runUnderlying59, Try.sizeOf59, Try.isAgg59, Try.zeroValue59, Try.underlying21, Try.runUnderlying21, Try.sizeOf21, Try.isAgg21, Try.zeroValue21, (by kernel_rfl)⟩

/-! ### Quotas, what was taken, entries -/
structure Qt where
  B : Int
  E : Int
  D : Int
structure St where
  b : Int
  n : Int
structure En where
  name : Tx
  kind : Int
  mode : Int
  uid : Int
  gid : Int
  time : Int
  nano : Int
  user : ByteArray
  group : ByteArray
  link : ByteArray
  size : Int
  typ : Int
def Qt.C (q : Qt) : Array Value := #[.int .i64 q.B, .int .i64 q.E, .int .i64 q.D]
def En.C (e : En) : Array Value := #[.string (Go.Proofs.Ytfjjgjkgicabjaa.mk e.name), .int .i64 e.kind, .int .u32 e.mode, .int .u32 e.uid, .int .u32 e.gid, .int .i64 e.time, .int .i32 e.nano, .string e.user, .string e.group, .string e.link, .int .i64 e.size, .int .u8 e.typ]
/-- A quota of numbers that the machine holds. -/
structure Qt.Ok (q : Qt) : Prop where
  b0 : -9223372036854775808 ≤ q.B
  b1 : q.B ≤ 9223372036854775807
  e0 : -9223372036854775808 ≤ q.E
  e1 : q.E ≤ 9223372036854775807
  d0 : -9223372036854775808 ≤ q.D
  d1 : q.D ≤ 9223372036854775807
structure En.Ok (e : En) : Prop where
  nm : e.name.length ≤ 140737488351232
  s0 : -9223372036854775808 ≤ e.size
  s1 : e.size ≤ 9223372036854775807
def Qt.can (q : Qt) : Bool := decide (0 ≤ q.B ∧ 0 ≤ q.E ∧ 0 ≤ q.D)
/-- What an entry needs of the bytes. -/
def En.nb (e : En) : Int := if e.kind = 2 then e.size else 0
/-- What hinders an entry by itself, whatever was taken. -/
def En.why (q : Qt) (e : En) : Nat := if splE e.name ≠ 0 then splE e.name else if q.D < ((cps e.name).length : Int) then 181 else if e.nb < 0 then 1 else 0
def tkE (q : Qt) (s : St) (e : En) : Nat := if q.E ≤ s.n then 180 else if e.why q ≠ 0 then e.why q else if q.B - s.b < e.nb then 182 else 0
def tkS (q : Qt) (s : St) (e : En) : St := if tkE q s e = 0 then ⟨s.b + e.nb, s.n + 1⟩ else s
def bkE (s : St) (e : En) : Nat := if e.nb < 0 ∨ s.b < e.nb ∨ s.n = 0 then 1 else 0
def bkS (s : St) (e : En) : St := if bkE s e = 0 then ⟨s.b - e.nb, s.n - 1⟩ else s
structure St.In (q : Qt) (s : St) : Prop where
  b0 : 0 ≤ s.b
  b1 : s.b ≤ q.B
  n0 : 0 ≤ s.n
  n1 : s.n ≤ q.E
def Qt.left (q : Qt) (s : St) : Qt := ⟨q.B - s.b, q.E - s.n, q.D⟩
def St.used (s : St) : Qt := ⟨s.b, s.n, 0⟩
theorem why_nb {q : Qt} {e : En} (h : e.why q = 0) : 0 ≤ e.nb ∧ splE e.name = 0 ∧ ((cps e.name).length : Int) ≤ q.D := by
  unfold En.why at h
  split at h
  · exact absurd h (by assumption)
  · split at h
    · cases h
    · split at h
      · cases h
      · exact ⟨by omega, by omega, by omega⟩
theorem tkE_zero {q : Qt} {s : St} {e : En} : tkE q s e = 0 ↔ e.why q = 0 ∧ s.n < q.E ∧ e.nb ≤ q.B - s.b := by
  unfold tkE
  constructor
  · intro h
    split at h
    · cases h
    · split at h
      · exact absurd h (by assumption)
      · split at h
        · cases h
        · exact ⟨by omega, by omega, by omega⟩
  · rintro ⟨h1, h2, h3⟩
    rw [if_neg (by omega), if_neg (by omega), if_neg (by omega)]
theorem tkS_in {q : Qt} {s : St} {e : En} (h : s.In q) : (tkS q s e).In q := by
  unfold tkS
  split
  · rename_i h0
    obtain ⟨h1, h2, h3⟩ := tkE_zero.1 h0
    have h4 := (why_nb h1).1
    obtain ⟨a, b, c, d⟩ := h
    exact ⟨by show 0 ≤ s.b + e.nb; omega, by show s.b + e.nb ≤ q.B; omega, by show 0 ≤ s.n + 1; omega, by show s.n + 1 ≤ q.E; omega⟩
  · exact h
theorem bkE_zero {s : St} {e : En} : bkE s e = 0 ↔ 0 ≤ e.nb ∧ e.nb ≤ s.b ∧ s.n ≠ 0 := by
  unfold bkE
  split
  · constructor
    · intro h; cases h
    · intro h; omega
  · constructor
    · intro _; omega
    · intro _; rfl
theorem bkS_in {q : Qt} {s : St} {e : En} (h : s.In q) : (bkS s e).In q := by
  unfold bkS
  split
  · rename_i h0
    obtain ⟨h1, h2, h3⟩ := bkE_zero.1 h0
    obtain ⟨a, b, c, d⟩ := h
    exact ⟨by show 0 ≤ s.b - e.nb; omega, by show s.b - e.nb ≤ q.B; omega, by show 0 ≤ s.n - 1; omega, by show s.n - 1 ≤ q.E; omega⟩
  · exact h

/-! ### Meters in memory -/
def mtC (q : Qt) (s : St) (k : Int) : Array Value := #[.int .i32 k, .int .u32 0, .int .i64 q.B, .int .i64 q.E, .int .i64 q.D, .int .i64 s.b, .int .i64 s.n, .int .i64 0]
/-- Block b is a meter, its lock is free. -/
def MtB (b : Nat) (q : Qt) (s : St) (w : World) : Prop := w.heap[b]? = some (.cells (mtC q s 0) 65)
/-- Block b is the document's meter. -/
def RfB (b : Nat) (q : Qt) (s : St) (w : World) : Prop := w.heap[b]? = some (.cells #[.int .i64 q.B, .int .i64 q.E, .int .i64 q.D, .int .i64 s.b, .int .i64 s.n] 69)
theorem MtB.lt {b : Nat} {q : Qt} {s : St} {w : World} (h : MtB b q s w) : b < w.heap.size := (Array.getElem?_eq_some_iff.1 h).1
theorem RfB.lt {b : Nat} {q : Qt} {s : St} {w : World} (h : RfB b q s w) : b < w.heap.size := (Array.getElem?_eq_some_iff.1 h).1
theorem MtB.kept {b : Nat} {q : Qt} {s : St} {w w' : World} {X : Nat → Prop} (h : MtB b q s w) (f : Fr X w w') (hx : ¬ X b) : MtB b q s w' := (f.block b h.lt hx).trans h
theorem RfB.kept {b : Nat} {q : Qt} {s : St} {w w' : World} {X : Nat → Prop} (h : RfB b q s w) (f : Fr X w w') (hx : ¬ X b) : RfB b q s w' := (f.block b h.lt hx).trans h
theorem heap_setQ {w : World} {b o : Nat} {c : Array Value} {e : TypeId} {f : Nat × Nat} (v : Value) (h : w.heap[b]? = some (.cells c e f)) : (w.setCell ⟨b, o, none⟩ v).heap[b]? = some (.cells (c.setIfInBounds o v) e f) := by
  simp only [World.setCell, Array.getElem?_modify, h]
  simp

theorem MtB.cell {b : Nat} {q : Qt} {s : St} {w : World} (h : MtB b q s w) : w.cell? ⟨b, 0, none⟩ = some (.int .i32 0) ∧ w.cell? ⟨b, 2, none⟩ = some (.int .i64 q.B) ∧ w.cell? ⟨b, 3, none⟩ = some (.int .i64 q.E) ∧ w.cell? ⟨b, 4, none⟩ = some (.int .i64 q.D) ∧ w.cell? ⟨b, 5, none⟩ = some (.int .i64 s.b) ∧ w.cell? ⟨b, 6, none⟩ = some (.int .i64 s.n) ∧ w.cell? ⟨b, 7, none⟩ = some (.int .i64 0) ∧ ∀ o, w.frozen? ⟨b, o, none⟩ = false := by
  unfold MtB mtC at h
  refine ⟨?_, ?_, ?_, ?_, ?_, ?_, ?_, fun o => ?_⟩ <;> simp [World.cell?, World.frozen?, h]
theorem RfB.cell {b : Nat} {q : Qt} {s : St} {w : World} (h : RfB b q s w) : w.cell? ⟨b, 0, none⟩ = some (.int .i64 q.B) ∧ w.cell? ⟨b, 1, none⟩ = some (.int .i64 q.E) ∧ w.cell? ⟨b, 2, none⟩ = some (.int .i64 q.D) ∧ w.cell? ⟨b, 3, none⟩ = some (.int .i64 s.b) ∧ w.cell? ⟨b, 4, none⟩ = some (.int .i64 s.n) ∧ ∀ o, w.frozen? ⟨b, o, none⟩ = false := by
  unfold RfB at h
  refine ⟨?_, ?_, ?_, ?_, ?_, fun o => ?_⟩ <;> simp [World.cell?, World.frozen?, h]
theorem newHeapQ (w : World) (o : Obj) : (w.alloc o).heap[w.heap.size]? = some o := by
  show (w.heap.push o)[w.heap.size]? = some o
  simp
end Go.Proofs.Ytfjjgjkgicabjaa

import Derived.Test.YtlfcgldbgejfbaaDiA
import Derived.Test.YtlfcgldbgejfbaaPiB
namespace Go.Proofs.Ytlfcgldbgejfbaa
open Go.RowKit
set_option linter.unusedVariables false
/-! ### Four digests, and what each took -/
def Tk (s o : BitVec 64) : Nat → Nat → List By → World → Prop
  | 0, d, l, V => Took32 d (s.setWidth 32) l V
  | 1, d, l, V => Took32 d (o.setWidth 32) l V
  | 2, d, l, V => Took64 d s l V
  | _, d, l, V => Took64 d o l V
theorem Tk.kept {s o : BitVec 64} {i d : Nat} {l : List By} {V V' : World} {X : Nat → Prop} (h : Tk s o i d l V) (f : Fr X V V') (hx : ¬ X d) : Tk s o i d l V' := by
  match i with
  | 0 => exact Took32.kept h f hx
  | 1 => exact Took32.kept h f hx
  | 2 => exact Took64.kept h f hx
  | i + 3 => exact Took64.kept h f hx
theorem Tk.lt {s o : BitVec 64} {i d : Nat} {l : List By} {V : World} (h : Tk s o i d l V) : d < V.heap.size := by
  match i with
  | 0 => exact Took32.lt h
  | 1 => exact Took32.lt h
  | 2 => exact Took64.lt h
  | i + 3 => exact Took64.lt h
def OwS (sb : Nat) (D : Nat → Nat) (t : Value) (l : List By) (V : World) : Prop := (t = .slice none 0 0 ∧ l = []) ∨ ∃ g, g ≠ sb ∧ (∀ i, i < 4 → g ≠ D i) ∧ Ow g t l V
theorem OwS.kept {sb : Nat} {D : Nat → Nat} {t : Value} {l : List By} {V V' : World} {X : Nat → Prop} (h : OwS sb D t l V) (f : Fr X V V') (hx : ∀ g, X g → g = sb ∨ (∃ i, i < 4 ∧ g = D i) ∨ V.heap.size ≤ g) : OwS sb D t l V' := by
  rcases h with h | ⟨g, h1, h2, h3⟩
  · exact .inl h
  · refine .inr ⟨g, h1, h2, h3.kept f (fun hg => ?_)⟩
    rcases hx g hg with e | ⟨i, hi, e⟩ | e
    · exact h1 e
    · exact h2 i hi e
    · have := h3.lt; omega
theorem OwS.old {sb : Nat} {D : Nat → Nat} {t : Value} {l : List By} {V : World} (h : OwS sb D t l V) : Old V t l := by
  rcases h with ⟨h1, h2⟩ | ⟨g, _, _, h4⟩
  · exact .inl ⟨none, h1, h2⟩
  · exact h4.old
theorem OwS.slice {sb : Nat} {D : Nat → Nat} {t : Value} {l : List By} {V : World} (h : OwS sb D t l V) : ∃ a c, t = .slice a l.length c := by
  rcases h with ⟨h1, h2⟩ | ⟨g, _, _, xs, h4, _⟩
  · subst h2; exact ⟨_, _, h1⟩
  · exact ⟨_, _, h4⟩
def scells (s o : BitVec 64) (D : Nat → Nat) (T : Nat → Value) : Array Value := #[.pointer (some ⟨D 0, 0, none⟩), .pointer (some ⟨D 1, 0, none⟩), .pointer (some ⟨D 2, 0, none⟩), .pointer (some ⟨D 3, 0, none⟩), T 0, T 1, T 2, T 3, .int .u64 s.toNat, .int .u64 o.toNat]
structure DInv (w : World) (sb : Nat) (s o : BitVec 64) (D : Nat → Nat) (T : Nat → Value) (L : Nat → List By) (V : World) : Prop where
  st : V.heap[sb]? = some (.cells (scells s o D T) 36)
  tk : ∀ i, i < 4 → Tk s o i (D i) (L i) V
  own : ∀ i, i < 4 → OwS sb D (T i) (L i) V
  inj : ∀ i j, i < 4 → j < 4 → D i = D j → i = j
  sbd : ∀ i, i < 4 → D i ≠ sb
  base : w.heap.size ≤ sb ∧ ∀ i, i < 4 → w.heap.size ≤ D i
  nw : Nw w V
theorem DInv.nws {w : World} {sb : Nat} {s o : BitVec 64} {D : Nat → Nat} {T : Nat → Value} {L : Nat → List By} {V V' : World} (h : DInv w sb s o D T L V) (f : Nw V V') : DInv w sb s o D T L V' :=
  ⟨f.heap h.st, fun i hi => (h.tk i hi).kept f (fun h => h), fun i hi => (h.own i hi).kept f (fun _ h => h.elim), h.inj, h.sbd, h.base, h.nw.trans f⟩
theorem DInv.cell {w : World} {sb : Nat} {s o : BitVec 64} {D : Nat → Nat} {T : Nat → Value} {L : Nat → List By} {V : World} (h : DInv w sb s o D T L V) (j : Nat) (v : Value) (hv : (scells s o D T)[j]? = some v) : V.cell? ⟨sb, j, none⟩ = some v := by
  have := h.st
  simp [World.cell?, this, hv]
theorem DInv.free {w : World} {sb : Nat} {s o : BitVec 64} {D : Nat → Nat} {T : Nat → Value} {L : Nat → List By} {V : World} (h : DInv w sb s o D T L V) (j : Nat) : V.frozen? ⟨sb, j, none⟩ = false := by
  have := h.st
  simp [World.frozen?, this]
theorem low_of' (o : BitVec 64) : ((o.setWidth 32).toNat : Int) = (o.toNat : Int) % 4294967296 := by simp
theorem low_wrap (o : BitVec 64) : IntKind.u32.wrap (o.toNat : Int) = ((o.setWidth 32).toNat : Int) := by rw [IntKind.wrap_u32, low_of']
end Go.Proofs.Ytlfcgldbgejfbaa

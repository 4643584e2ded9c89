import Derived.Test.YtfmghmidklpdaaaPyC
namespace Go.Proofs.Ytfmghmidklpdaaa
open Go.RowKit
set_option linter.unusedVariables false
theorem SlR.preX {X : Nat → Prop} {a : Option Addr} {N c n : Nat} {l m : List Tx} {w : World} (h : SlR RS X (.slice a N c) (l ++ m) w) (hn : l.length = n) : SlR RS X (.slice a n c) l w := by
  have := h.pre n (by rw [List.length_append]; omega)
  rwa [List.take_append_of_le_length (by omega), List.take_of_length_le (by omega)] at this
theorem joinF_ab (V : World) : Calls Try.prog 15 #[.slice (some ⟨V.heap.size, 0, none⟩) 2 2] (V.alloc (.cells #[.string ⟨#[97]⟩, .string ⟨#[98]⟩] 9)) fun e w' => e = .returned (.tuple #[.string ⟨#[97, 47, 98]⟩, .int .i64 0]) ∧ Hid (Nw V w') := by
  have q1 := mk_lit2 V [97] [98] #[97] #[98] rfl rfl
  refine (pjoin_any _ _ [[97], [98]] q1.anyS (fun p hp => by simp at hp; rcases hp with rfl | rfl <;> simp) (by simp)).mono ?_
  rintro e w' ⟨rfl, h⟩
  have h1 : (joinF [[97], [98]]).1 = [97, 47, 98] := by decide
  have h2 : ftF [[97], [98]] = 0 := by decide
  rw [h1, h2]
  exact ⟨rfl, ((Fr.refl _ _).alloc _).trans h⟩
/-- How all stands when the lists are to be written over. -/
structure LsI (D : Nat → Prop) (va vb vp vy vx : Value) (a b : List Tx) (V : World) : Prop where
  ha : SlR RS D va a V
  hb : SlR RS D vb b V
  hp : SlR RS D vp a V
  hy : SlR RS D vy b V
  hx : SlR RS D vx (a ++ [[98, 101, 104, 105, 110, 100]]) V
theorem LsI.kept {D Y : Nat → Prop} {va vb vp vy vx : Value} {a b : List Tx} {V V' : World} (h : LsI D va vb vp vy vx a b V) (f : Fr Y V V') (hy : ∀ g, Y g → D g) : LsI D va vb vp vy vx a b V' :=
  ⟨h.ha.kept f hy, h.hb.kept f hy, h.hp.kept f hy, h.hy.kept f hy, h.hx.kept f hy⟩
theorem LsI.mono {D Y : Nat → Prop} {va vb vp vy vx : Value} {a b : List Tx} {V : World} (h : LsI D va vb vp vy vx a b V) (hy : ∀ g, Y g → D g) : LsI Y va vb vp vy vx a b V :=
  ⟨h.ha.mono hy, h.hb.mono hy, h.hp.mono hy, h.hy.mono hy, h.hx.mono hy⟩
end Go.Proofs.Ytfmghmidklpdaaa

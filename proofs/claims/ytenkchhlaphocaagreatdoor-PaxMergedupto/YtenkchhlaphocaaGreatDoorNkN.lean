import Derived.Test.YtenkchhlaphocaaGreatDoorNkJ
import Derived.Test.YtenkchhlaphocaaGreatDoorNjP
namespace Go.Proofs.YtenkchhlaphocaaGreatDoor
open Go.RowKit
set_option linter.unusedVariables false
/-! ### Find: as a function; the document's -/
def fndV (l : List Pr) (k : Bs) : Option Bs := l.foldl (fun a x => if x.1 = k then some x.2 else a) none
theorem fndV_snoc (l : List Pr) (x : Pr) (k : Bs) : fndV (l ++ [x]) k = if x.1 = k then some x.2 else fndV l k := by simp [fndV]
theorem fndV_take (l : List Pr) (k : Bs) (K : Nat) (h : K < l.length) : fndV (l.take (K + 1)) k = if l[K].1 = k then some l[K].2 else fndV (l.take K) k := by
  rw [List.take_add_one, List.getElem?_eq_getElem h, Option.toList_some, fndV_snoc]
def fdV (o : Option Bs) : Value := match o with
  | none => .tuple #[.string ⟨#[]⟩, .bool false]
  | some v => .tuple #[.string (str v), .bool true]
end Go.Proofs.YtenkchhlaphocaaGreatDoor

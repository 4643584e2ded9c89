import Derived.Test.YtcogkhcfpgelhabVgC
namespace Go.Proofs.Ytcogkhcfpgelhab
open Go.RowKit
set_option linter.unusedVariables false
set_option maxRecDepth 100000
/-! ### The document's first example -/
abbrev mt0 : Mt := ⟨0, 0, 0, 0, 0⟩
abbrev mt1 : Mt := ⟨493, 0, 0, 0, 0⟩
def lQ1 : Int → Option Pn := addQ rootQ 1 [97] 2 (newP 1 mt1 [])
def lQ2 : Int → Option Pn := addQ lQ1 2 [102] 3 (newP 2 mt0 [])
abbrev lB : List By := [120#8, 121#8]
def lP3 : Pn := ⟨2, mt0, [0#8, 0#8, 120#8, 121#8], [], fun _ => none, 0, 1, 0⟩
def lQ3 (j : Int) : Option Pn := if j = 3 then some lP3 else lQ2 j
def lQ4 : Int → Option Pn := entQ lQ3 1 [104] 3
def lP4 : Pn := ⟨2, mt0, [0#8, 0#8, 120#8, 121#8], [], fun _ => none, 0, 2, 0⟩
def lQ5 : Int → Option Pn := leaQ lQ4 2 [102] 3 lP4
theorem l1a : addE ⟨3, 10, 0, 2⟩ rootQ 1 1 [97] 1 mt1 [] = 0 := by decide
theorem l1b : rootQ 2 = none := rfl
theorem l1c : ∃ p, rootQ 1 = some p ∧ p.ents [97] = none ∧ p.ne = 0 := ⟨_, rfl, rfl, rfl⟩
theorem l2a : addE ⟨3, 10, 0, 3⟩ lQ1 2 2 [102] 2 mt0 [] = 0 := by decide
theorem l2b : lQ1 3 = none := rfl
theorem l2c : ∃ p, lQ1 2 = some p ∧ p.ents [102] = none ∧ p.ne = 0 := ⟨_, rfl, rfl, rfl⟩
theorem l3a : addE ⟨3, 10, 0, 4⟩ lQ2 3 2 [103] 2 mt0 [] = 105 := by decide
theorem l3b : lQ2 4 = none := rfl
theorem l3c : ∃ p, lQ2 2 = some p ∧ p.ents [103] = none ∧ p.ne = 1 := ⟨_, rfl, rfl, rfl⟩
theorem l4a : wrE ⟨3, 10, 0, 4⟩ lQ2 3 2 lB = 0 := by decide
theorem l4b : ∃ p, lQ2 3 = some p ∧ p.data = [] ∧ wrH ⟨3, 10, 0, 4⟩ p 2 lB = ⟨3, 10, 4, 4⟩ ∧ { p with data := wrD p.data 2 lB } = lP3 := ⟨_, rfl, rfl, rfl, rfl⟩
theorem l5a : lnkE lQ3 1 [104] 3 = 0 := by decide
theorem l5c : ∃ p, lQ3 1 = some p ∧ p.ents [104] = none ∧ p.ne = 1 := ⟨_, rfl, rfl, rfl⟩
theorem l5d : lQ3 3 = some lP3 := rfl
theorem l6a : rdE lQ4 3 0 9 = 0 := by decide
theorem l6b : lQ4 3 = some lP4 := rfl
theorem l8a : remE lQ4 2 [102] false = 0 := by decide
theorem l8b : fndQ lQ4 2 [102] = (3, 0) := by decide
theorem l8c : ∃ p, lQ4 2 = some p ∧ p.ents [102] = some 3 := ⟨_, rfl, rfl⟩
theorem l9a : remE lQ5 1 [97] true = 0 := by decide
theorem l9b : fndQ lQ5 1 [97] = (2, 0) := by decide
theorem l9c : ∃ p, lQ5 1 = some p ∧ p.ents [97] = some 2 := ⟨_, rfl, rfl⟩
theorem l9d : ∃ p, lQ5 2 = some p ∧ p.links = 1 ∧ p.data = [] := ⟨_, rfl, rfl, rfl⟩
end Go.Proofs.Ytcogkhcfpgelhab

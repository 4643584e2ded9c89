import Derived.Test.YtffhpoilifgcdaaDoorVbd
import Derived.Test.YtffhpoilifgcdaaDoorVbg
namespace Go.Proofs.YtffhpoilifgcdaaDoor
open Go.RowKit
set_option linter.unusedVariables false
/-! ### The document's Sums -/
theorem blk_at (b : List By) (h : b.length = 512) (I : Nat) (hI : I < 512) (hI' : I < (blk b).length) : (blk b)[I] = if 148 ≤ I ∧ I < 156 then 32#8 else b[I]'(by omega) := by
  unfold blk at hI' ⊢
  by_cases h1 : I < 148
  · rw [List.getElem_append_left (by rw [List.length_take]; omega), if_neg (by omega), List.getElem_take]
  · rw [List.getElem_append_right (by rw [List.length_take]; omega)]
    by_cases h2 : I < 156
    · rw [List.getElem_append_left (by rw [List.length_replicate, List.length_take]; omega), if_pos (by omega), List.getElem_replicate]
    · rw [List.getElem_append_right (by rw [List.length_replicate, List.length_take]; omega), if_neg (by omega), List.getElem_drop]
      congr 1
      rw [List.length_replicate, List.length_take]; omega
/-! ### Check -/
/-- The sum's field. -/
def fld (b : List By) : List By := (b.drop 148).take 8
def chk (b : List By) : Bool := decide (octE (fld b) = 0) && (decide ((octN (fld b) : Int) = su (blk b)) || decide ((octN (fld b) : Int) = ss (blk b)))
theorem fld_sl (w : World) (g : Nat) (b : List By) (hb : b.length = 512) (h : w.heap[g]? = some (.cells (rc b) 36)) : Sl (fun _ => False) (.slice (some ⟨g, 148, none⟩) 8 364) (fld b) w := by
  have hl : (fld b).length = 8 := by unfold fld; rw [List.length_take, List.length_drop]; omega
  refine .inr ⟨g, fun h => h, 148, 364, by rw [hl], by rw [hl]; decide, by decide, ?_⟩
  have hr : Rd g 0 b w := fun j hj => by
    rw [Nat.zero_add]
    have := rc_at b j hj
    simp only [World.cell?, h]
    simpa using this
  exact (hr.drop 148).take 8
/-- Both checks: by what Sums and Octal answer. -/
theorem chk_walk (fC fS fO : FuncId) (b : List By) : chk b = chk b := rfl
end Go.Proofs.YtffhpoilifgcdaaDoor

namespace Go.Proofs.YtffhpoilifgcdaaDoor
open Go.RowKit
set_option linter.unusedVariables false
end Go.Proofs.YtffhpoilifgcdaaDoor

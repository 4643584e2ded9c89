import Derived.Test.YtenkchhlaphocaaDoorNkZ
import Derived.Test.YtenkchhlaphocaaDoorNkV
import Derived.Test.YtenkchhlaphocaaDoorNkO
import Derived.Test.YtenkchhlaphocaaDoorNkA
import Derived.Test.YtenkchhlaphocaaDoorXxZ
import Derived.Test.YtenkchhlaphocaaDoorNkG
namespace Go.Proofs.YtenkchhlaphocaaDoor
open Go.RowKit
set_option linter.unusedVariables false
/-! ### PaxPairs -/
/-- What Print's bytes are, whatever the error. -/
def prL (l : List Pr) : Bs := if prE l = 0 then prt l else []
theorem bo_nil' (B : Nat) (w : World) : BO B (.slice none 0 0) [] w := ⟨rfl, .inl ⟨rfl, rfl⟩⟩
theorem prB_bo {w V : World} {l : List Pr} {v : Value} (h : (prE l = 0 → BO w.heap.size v (prt l) V) ∧ (prE l ≠ 0 → v = .slice none 0 0)) : BO w.heap.size v (prL l) V := by
  unfold prL
  by_cases h0 : prE l = 0
  · rw [if_pos h0]; exact h.1 h0
  · rw [if_neg h0, h.2 h0]; exact bo_nil' _ _
theorem prA_sl {w V : World} {l : List Pr} {v : Value} (h : (prE l = 0 → Sl (fun k => k < w.heap.size) v (prt l) V) ∧ (prE l ≠ 0 → v = .slice none 0 0)) : Sl (fun _ => False) v (prL l) V := by
  unfold prL
  by_cases h0 : prE l = 0
  · rw [if_pos h0]; exact (h.1 h0).mono (fun _ h => h.elim)
  · rw [if_neg h0, h.2 h0]; exact .inl ⟨none, rfl, rfl⟩
theorem bo_form {B : Nat} {v : Value} {l : Bs} {w : World} (h : BO B v l w) : ∃ a c, v = .slice a l.length c ∧ l.length ≤ c ∧ c < 9223372036854775808 ∧ (0 < l.length → ∃ g, a = some ⟨g, 0, none⟩ ∧ B ≤ g) := by
  obtain ⟨h1, h2⟩ := h
  rcases h2 with ⟨rfl, h2⟩ | ⟨g, cap, cur, rfl, hg, hh, hc, hm, hs, ht⟩
  · exact ⟨none, 0, by rw [h2], by omega, by omega, fun h => by omega⟩
  · exact ⟨_, cap, rfl, hc, by unfold maxLen at hm; omega, fun _ => ⟨g, rfl, hg⟩⟩
theorem bo_set {B g n c : Nat} {l : Bs} {w : World} (h : BO B (.slice (some ⟨g, 0, none⟩) n c) l w) (i : Nat) (hi : i < l.length) (y : By) (z : Int) (hz : z = y.toNat) :
    BO B (.slice (some ⟨g, 0, none⟩) n c) (l.set i y) (w.setCell ⟨g, i, none⟩ (.int .u8 z)) ∧ (∃ u, w.cell? ⟨g, i, none⟩ = some u) ∧ w.frozen? ⟨g, i, none⟩ = false ∧ Fr (fun k => k = g) w (w.setCell ⟨g, i, none⟩ (.int .u8 z)) ∧ B ≤ g := by
  obtain ⟨h1, h2⟩ := h
  rcases h2 with ⟨e, h2⟩ | ⟨g', cap, cur, e, hg, hh, hc, hm, hs, ht⟩
  · cases e
  · injection e with e1 e2 e3
    injection e1 with e1
    injection e1 with e1 _
    subst e1 e2 e3
    have hil : i < cur.size := by rw [hs]; omega
    refine ⟨⟨by simp, .inr ⟨g, c, cur.setIfInBounds i (.int .u8 z), by rw [List.length_set], hg, ?_, by rw [List.length_set]; exact hc, hm, by simp [hs], ?_⟩⟩, ⟨cur[i], by simp [World.cell?, hh, hil]⟩, by simp [World.frozen?, hh], (Fr.refl _ _).setCell _ _ (.inl rfl), hg⟩
    · simp [World.setCell, Array.getElem?_modify, hh]
    · rw [List.length_set, Array.toList_setIfInBounds, List.take_set, ht, List.map_set, hz]
theorem prE_lng {l : List Pr} (h : prE l = 0) : ∀ x ∈ l, lng x ≠ 0 := by
  unfold prE at h
  split at h
  · split at h
    · assumption
    · cases h
  · cases h
theorem prL_len (l : List Pr) : (prL l).length ≤ wtP l := by
  unfold prL
  split
  · rename_i h0
    have := prt_le l (prE_lng h0)
    omega
  · simp
theorem wpr_len (l : List Pr) : l.length ≤ wpr l := by
  induction l with
  | nil => simp [wpr]
  | cons x r ih =>
    unfold wpr at ih ⊢
    rw [List.map_cons, List.sum_cons, List.length_cons]
    unfold wp1 at ih ⊢
    omega
theorem wpr_mem {l : List Pr} {x : Pr} (h : x ∈ l) : x.1.length + x.2.length ≤ wpr l := by
  induction l with
  | nil => cases h
  | cons y r ih =>
    unfold wpr at ih ⊢
    rw [List.map_cons, List.sum_cons]
    rcases List.mem_cons.1 h with rfl | h
    · unfold wp1; omega
    · have := ih h; omega
end Go.Proofs.YtenkchhlaphocaaDoor

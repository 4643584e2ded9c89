import Derived.Test.YtfjjgjkgicabjaaPuB
namespace Go.Proofs.Ytfjjgjkgicabjaa
open Go.RowKit
set_option linter.unusedVariables false
theorem cell_of_row {V : World} {g : Nat} {cs : Array Value} {T : Nat} (h : V.heap[g]? = some (.cells cs T)) (j : Nat) (v : Value) (hv : cs[j]? = some v) : V.cell? ⟨g, j, none⟩ = some v ∧ V.frozen? ⟨g, j, none⟩ = false := by
  constructor <;> simp [World.cell?, World.frozen?, h, hv]
/-! ### Leaves -/
def dst (z : Int) (p : Tx) : Int := if stays p = true then z else if p = [46, 46] then IntKind.i64.wrap (z - 1) else IntKind.i64.wrap (z + 1)
def dpw (z : Int) (ps : List Tx) : Int := ps.foldl dst z
theorem dpw_snoc (z : Int) (ps : List Tx) (p : Tx) : dpw z (ps ++ [p]) = dst (dpw z ps) p := by
  unfold dpw
  rw [List.foldl_append]; rfl
theorem up_eq (l : Tx) : ((mk l).toList == ([46, 46] : List UInt8)) = decide (l = [46, 46]) := tx_eq l _
def lvT (z : Int) (d : List Tx) (p : Tx) : Bool := decide (dpw z (d ++ [p]) < 0)
def lvJ (w : World) (cb : Nat) (z : Int) (d : List Tx) (V : World) : Prop := Fr (fun k => k = cb) w V ∧ V.cell? ⟨cb, 0, none⟩ = some (.int .i64 (dpw z d)) ∧ V.frozen? ⟨cb, 0, none⟩ = false
theorem frozen_nw {w w' : World} (h : Nw w w') {p : Addr} (hp : p.block < w.heap.size) (hf : w.frozen? p = false) : w'.frozen? p = false := by
  have := h.block p.block hp (fun h => h)
  rw [← hf]
  unfold World.frozen?
  rw [this]
theorem lv_pieces (z : Int) (d : List Tx) (D : Nat) (hz : dpw z d = (D : Int)) (ps : List Tx) (hb : D + ps.length < 9000000000000000000) : spB (lvT z) d ps = lvP D ps := by
  induction ps generalizing d D with
  | nil => rfl
  | cons p r ih =>
    rw [List.length_cons] at hb
    have hT : lvT z d p = decide (dst (D : Int) p < 0) := by unfold lvT; rw [dpw_snoc, hz]
    have hn : dpw z (d ++ [p]) = dst (D : Int) p := by rw [dpw_snoc, hz]
    rw [spB, hT, lvP]
    by_cases hs : stays p = true
    · have e : dst (D : Int) p = (D : Int) := by unfold dst; rw [if_pos hs]
      rw [e] at hn ⊢
      rw [if_neg (by simp), if_pos hs]
      exact ih _ D hn (by omega)
    · rw [if_neg hs]
      by_cases hu : p = [46, 46]
      · have e : dst (D : Int) p = (D : Int) - 1 := by unfold dst; rw [if_neg hs, if_pos hu, IntKind.wrap_i64]; omega
        rw [e] at hn ⊢
        rw [if_pos hu]
        by_cases h0 : D = 0
        · rw [if_pos h0, if_pos (by subst h0; decide)]
        · rw [if_neg h0, if_neg (by simp; omega)]
          exact ih _ (D - 1) (by rw [hn]; omega) (by omega)
      · have e : dst (D : Int) p = (D : Int) + 1 := by unfold dst; rw [if_neg hs, if_neg hu, IntKind.wrap_i64]; omega
        rw [e] at hn ⊢
        rw [if_neg hu, if_neg (by simp; omega)]
        exact ih _ (D + 1) (by rw [hn]; omega) (by omega)
end Go.Proofs.Ytfjjgjkgicabjaa

import Derived.Test.YtkpkiajehclbhaaCpA
import Derived.Test.YtkpkiajehclbhaaBjD
namespace Go.Proofs.Ytkpkiajehclbhaa
open Go.RowKit
set_option linter.unusedVariables false
variable {ls : List Nat}
/-! ### Words one behind the other -/
def pn (ls : List Nat) : List Nat → Nat
  | [] => 0
  | i :: r => ls.getD i 0 + pn ls r
def pw (ls : List Nat) : List Nat → Nat
  | [] => 0
  | i :: r => (wdP ls i).1 + 2 ^ ls.getD i 0 * pw ls r
theorem wdP_lt (i : Nat) : (wdP ls i).1 < 2 ^ ls.getD i 0 := by
  unfold wdP
  split
  · exact Nat.two_pow_pos _
  · exact rev_lt _ _
theorem pn_app (a b : List Nat) : pn ls (a ++ b) = pn ls a + pn ls b := by
  induction a with
  | nil => simp [pn]
  | cons x r ih => simp only [List.cons_append, pn, ih]; omega
theorem pw_app (a b : List Nat) : pw ls (a ++ b) = pw ls a + 2 ^ pn ls a * pw ls b := by
  induction a with
  | nil => simp [pw, pn]
  | cons x r ih =>
    simp only [List.cons_append, pw, pn, ih]
    rw [Nat.mul_add, Nat.pow_add, Nat.mul_assoc]; omega
theorem pw_lt (a : List Nat) : pw ls a < 2 ^ pn ls a := by
  induction a with
  | nil => simp [pw, pn]
  | cons x r ih =>
    simp only [pw, pn]
    have h1 := wdP_lt (ls := ls) x
    have h2 : 2 ^ ls.getD x 0 * (pw ls r + 1) ≤ 2 ^ ls.getD x 0 * 2 ^ pn ls r := Nat.mul_le_mul_left _ ih
    rw [Nat.pow_add]
    rw [Nat.mul_add] at h2
    omega
theorem pn_snoc (a : List Nat) (i : Nat) : pn ls (a ++ [i]) = pn ls a + ls.getD i 0 := by rw [pn_app]; simp [pn]
theorem pw_snoc (a : List Nat) (i : Nat) : pw ls (a ++ [i]) = pw ls a + (wdP ls i).1 * 2 ^ pn ls a := by
  rw [pw_app]; simp only [pw, Nat.mul_zero, Nat.add_zero]; rw [Nat.mul_comm]
theorem pn_take (ds : List Nat) (I : Nat) : pn ls (ds.take I) + pn ls (ds.drop I) = pn ls ds := by rw [← pn_app, List.take_append_drop]
theorem pw_drop (ds : List Nat) (I : Nat) : pw ls ds / 2 ^ pn ls (ds.take I) = pw ls (ds.drop I) := by
  have h := pw_app (ls := ls) (ds.take I) (ds.drop I)
  rw [List.take_append_drop] at h
  rw [h, Nat.add_mul_div_left _ _ (Nat.two_pow_pos _), Nat.div_eq_of_lt (pw_lt _), Nat.zero_add]
theorem take_snoc (ds : List Nat) (I i : Nat) (hi : ds[I]? = some i) : ds.take (I + 1) = ds.take I ++ [i] := by
  rw [List.take_add_one, hi]; rfl
theorem drop_at (ds : List Nat) (I i : Nat) (hi : ds[I]? = some i) : ds.drop I = i :: ds.drop (I + 1) := by
  obtain ⟨h, rfl⟩ := List.getElem?_eq_some_iff.1 hi
  exact List.drop_eq_getElem_cons h
theorem hits_at (hk : Cod ls) (ds : List Nat) (I i : Nat) (hi : ds[I]? = some i) (h1 : i < ls.length) (h2 : ls.getD i 0 ≠ 0) : Hits ls (rev 15 (pw ls ds / 2 ^ pn ls (ds.take I))) i := by
  rw [pw_drop, drop_at ds I i hi, hits_iff hk _ i h1 h2]
  simp only [pw]
  rw [Nat.add_mul_mod_self_left, Nat.mod_eq_of_lt (wdP_lt i)]
  unfold wdP
  rw [if_neg h2]
theorem pn_le (hk : Cod ls) (ds : List Nat) : pn ls ds ≤ 15 * ds.length := by
  induction ds with
  | nil => simp [pn]
  | cons x r ih => simp only [pn, List.length_cons]; have := hk.each x; omega
/-- Of one length the words rise, as they are written. -/
theorem turned_rise (hk : Cod ls) (i j : Nat) (hj : j < i) (hi : i < ls.length) (h0 : ls.getD i 0 ≠ 0) (he : ls.getD i 0 = ls.getD j 0) : rev (wdP ls j).2 (wdP ls j).1 < rev (wdP ls i).2 (wdP ls i).1 := by
  have h0j : ls.getD j 0 ≠ 0 := by rw [← he]; exact h0
  unfold wdP
  rw [if_neg h0, if_neg h0j]
  simp only
  have hl := (hk.cd_lt i hi h0).2
  have hlj := (hk.cd_lt j (by omega) h0j).2
  rw [rev_rev, rev_rev, Nat.mod_eq_of_lt hl, Nat.mod_eq_of_lt hlj]
  unfold cd
  rw [he]
  have := rk_rise ls j i hj hi he.symm
  omega
set_option maxHeartbeats 8000000 in
/-- The law's turned. -/
theorem lturned_any (x n : Nat) (hx : x < 4294967296) (hn : n ≤ 15) (w : World) : Calls Try.prog 42 #[.agg #[.int .u32 x, .int .i64 n]] w fun e w' => e = .returned (.int .u32 (rev n x)) ∧ Nw w w' := by
  obtain ⟨P, hP⟩ : ∃ P : Ending → World → Prop, P = fun e w' => e = .returned (.int .u32 (rev n x)) ∧ Nw w w' := ⟨_, rfl⟩
  rw [← hP]
  obtain ⟨W1, hW1⟩ : ∃ W1, w.alloc (.cells #[.int .u32 x, .int .i64 n] 62) = W1 := ⟨_, rfl⟩
  have hN1 : Nw w W1 := by rw [← hW1]; exact (Fr.refl _ _).alloc _
  have hrow1 : W1.heap[w.heap.size]? = some (.cells #[.int .u32 x, .int .i64 n] 62) := by
    rw [← hW1]
    show (w.heap.push _)[w.heap.size]? = _
    rw [Array.getElem?_push_size]
  obtain ⟨y2, y3⟩ : W1.cell? ⟨w.heap.size, 0, none⟩ = some (.int .u32 x) ∧ W1.cell? ⟨w.heap.size, 1, none⟩ = some (.int .i64 n) := ⟨(row_cell hrow1 0 _ rfl).1, (row_cell hrow1 1 _ rfl).1⟩
  have HW1 : Hid (w.alloc (.cells #[.int .u32 x, .int .i64 n] 62) = W1) := hW1
  have HF : Hid (P (.returned (.int .u32 (rev n x))) W1) := by
    show P _ _
    rw [hP]; exact ⟨rfl, hN1⟩
  clear hP hW1 hN1 hrow1
  go_enter Try.func42, Try.ntmps42
  go_upto_region 1 with fail
  rw [HW1.out]
  go_wp2_with fail
  go_loopg [3, 4] n (fun kx v i wr => ∃ (I : Nat), I ≤ n ∧ n - I ≤ kx ∧ v = .int .u32 (rev I x) ∧ i = .int .i64 I ∧ wr = W1)
  case atStart => exact ⟨0, by omega, by omega, rfl, rfl, rfl⟩
  case round =>
    obtain ⟨I, hI, hkx, rfl, rfl, rfl⟩ := hrel
    by_cases hlt : I < n
    · have hz : (I : Int) < (n : Int) := by omega
      have hs := rev_snoc I x
      have hl1 := rev_lt I x
      have hl2 := rev_lt (I + 1) x
      have hp1 : (2 : Nat) ^ I ≤ 2 ^ 15 := Nat.pow_le_pow_right (by decide) (by omega)
      have hp2 : (2 : Nat) ^ (I + 1) ≤ 2 ^ 15 := Nat.pow_le_pow_right (by decide) (by omega)
      obtain ⟨q, hq⟩ : ∃ q, q = x / 2 ^ I := ⟨_, rfl⟩
      have hqi : (x : Int) / 2 ^ I = (q : Int) := by rw [hq]; push_cast; rfl
      have hql : q < 4294967296 := by rw [hq]; exact Nat.lt_of_le_of_lt (Nat.div_le_self _ _) hx
      rw [← hq] at hs
      have HI : Hid ((rev I x : Int) * 2 + (q : Int) % 2 = (rev (I + 1) x : Int)) := by
        show (rev I x : Int) * 2 + (q : Int) % 2 = (rev (I + 1) x : Int)
        omega
      have hr1 : rev I x < 32768 := by omega
      have hI15 : I < 15 := by omega
      clear hs hq hp1 hp2 hl1 hl2
      generalize hA : rev I x = A at *
      clear hA
      go_wp2_with fail
      go_roundg (n - (I + 1))
      case measure => omega
      case rel =>
        refine ⟨I + 1, by omega, by omega, ?_, by first | rfl | (congr 1), rfl⟩
        rw [← HI.out]
    · obtain rfl : I = n := by omega
      have hz : ¬ (I : Int) < (I : Int) := by omega
      go_wp2_with fail
      exact HF.out
end Go.Proofs.Ytkpkiajehclbhaa

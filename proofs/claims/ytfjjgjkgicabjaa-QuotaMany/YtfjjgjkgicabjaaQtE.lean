import Derived.Test.YtfjjgjkgicabjaaQtD
namespace Go.Proofs.Ytfjjgjkgicabjaa
open Go.RowKit Go.MuLone
set_option linter.unusedVariables false
def rfE (L : Qt) (l : Tx) (n : Int) : Nat := if L.E < 1 then 180 else if splE l ≠ 0 then splE l else if L.D < ((cps l).length : Int) then 181 else if n < 0 then 1 else if L.B < n then 182 else 0
theorem rfE_tk (q : Qt) (s : St) (e : En) : rfE (q.left s) e.name e.nb = tkE q s e := by
  unfold rfE tkE En.why Qt.left
  simp only
  by_cases h1 : q.E ≤ s.n
  · rw [if_pos h1, if_pos (by omega)]
  rw [if_neg h1, if_neg (by omega)]
  by_cases h2 : splE e.name ≠ 0
  · rw [if_pos h2, if_pos h2, if_pos h2]
  rw [if_neg h2, if_neg h2]
  by_cases h3 : q.D < ((cps e.name).length : Int)
  · rw [if_pos h3, if_pos h3, if_pos (by decide)]
  rw [if_neg h3, if_neg h3]
  by_cases h4 : e.nb < 0
  · rw [if_pos h4, if_pos h4, if_pos (by decide)]
  rw [if_neg h4, if_neg h4, if_neg (c := (0 : Nat) ≠ 0) (by decide)]
theorem spA_len {w w' : World} {l : Tx} {a : Option Addr} {n c : Nat} (h : SpA w l a n c w') : (splF l).1.length = n ∧ n ≤ c ∧ c < 9223372036854775808 := by
  obtain ⟨og, h1, _⟩ := h
  exact og_len h1
theorem two_rows (w : World) (p o : Obj) : ((w.alloc p).alloc o).heap[w.heap.size]? = some p ∧ ((w.alloc p).alloc o).heap[w.heap.size + 1]? = some o := by
  refine ⟨?_, newHeapQ1 w p o⟩
  rw [Below.heap_alloc _ _ _ (by simp)]
  exact newHeapQ w p
theorem row3 {w : World} {g : Nat} {x y z : Value} {t : TypeId} (h : w.heap[g]? = some (.cells #[x, y, z] t)) : w.cell? ⟨g, 0, none⟩ = some x ∧ w.cell? ⟨g, 1, none⟩ = some y ∧ w.cell? ⟨g, 2, none⟩ = some z := by
  refine ⟨?_, ?_, ?_⟩ <;> simp [World.cell?, h]
section
variable {rf z m N : Nat} {D B n : Int} (h : rf = if z ≠ 0 then z else if D < (m : Int) then 181 else if n < 0 then 1 else if B < n then 182 else 0)
include h
theorem rf_1 (hz : ((z : Int) != 0) = true) : rf = z := by
  have : z ≠ 0 := by simp at hz; omega
  rw [h, if_pos this]
theorem rf_2 (hz : ((z : Int) != 0) = false) (hm : z = 0 → m = N) (h2 : D < (N : Int)) : rf = 181 := by
  have h0 : z = 0 := by simp at hz; omega
  have := hm h0
  rw [h, if_neg (by omega), if_pos (by omega)]
theorem rf_3 (hz : ((z : Int) != 0) = false) (hm : z = 0 → m = N) (h2 : (N : Int) ≤ D) (h3 : n < 0) : rf = 1 := by
  have h0 : z = 0 := by simp at hz; omega
  have := hm h0
  rw [h, if_neg (by omega), if_neg (by omega), if_pos h3]
theorem rf_4 (hz : ((z : Int) != 0) = false) (hm : z = 0 → m = N) (h2 : (N : Int) ≤ D) (h3 : 0 ≤ n) (h4 : B < n) : rf = 182 := by
  have h0 : z = 0 := by simp at hz; omega
  have := hm h0
  rw [h, if_neg (by omega), if_neg (by omega), if_neg (by omega), if_pos h4]
theorem rf_5 (hz : ((z : Int) != 0) = false) (hm : z = 0 → m = N) (h2 : (N : Int) ≤ D) (h3 : 0 ≤ n) (h4 : n ≤ B) : rf = 0 := by
  have h0 : z = 0 := by simp at hz; omega
  have := hm h0
  rw [h, if_neg (by omega), if_neg (by omega), if_neg (by omega), if_neg (by omega)]
end
set_option maxHeartbeats 2000000 in
theorem refusal_any (w : World) (L : Qt) (l : Tx) (n : Int) (hl : l.length ≤ 140737488351232) :
    Calls Try.prog 28 #[.agg L.C, .string (mk l), .agg (Qt.C ⟨n, 1, 0⟩)] w fun r w' => r = .returned (.int .i64 ((rfE L l n : Nat) : Int)) ∧ Nw w w' := by
  obtain ⟨P, hP⟩ : ∃ P : Ending → World → Prop, P = fun r w' => r = .returned (.int .i64 ((rfE L l n : Nat) : Int)) ∧ Nw w w' := ⟨_, rfl⟩
  rw [← hP]
  have HF : Hid (∀ (k : Nat) (z : Int), rfE L l n = k → (k : Int) = z → ∀ V, Nw w V → P (.returned (.int .i64 z)) V) := fun k z hk hz V hV => by rw [hP]; exact ⟨by rw [hk, hz], hV⟩
  clear hP
  obtain ⟨B, E, D⟩ := L
  unfold Qt.C
  simp only
  by_cases h1 : E < 1
  · have HQ : Hid (rfE ⟨B, E, D⟩ l n = 180) := by show _ = _; unfold rfE; rw [if_pos h1]
    clear hl
    generalize mk l = x
    go_enter Try.func28, Try.ntmps28
    go_wp2_with fail
    exact HF.out 180 180 HQ.out rfl _ (((Fr.refl _ _).alloc _).alloc _)
  have HS : Hid (∀ V b1 b2 c1 c2, V.heap[b1]? = some c1 → V.heap[b2]? = some c2 → Calls Try.prog 33 #[.string (mk l)] V fun e w' => ∃ a n c, e = .returned (.tuple #[.slice a n c, .int .i64 ((splE l : Nat) : Int)]) ∧ n ≤ c ∧ c < 9223372036854775808 ∧ w'.heap[b1]? = some c1 ∧ w'.heap[b2]? = some c2 ∧ Hid (Nw V w' ∧ (splE l = 0 → (cps l).length = n))) := fun V b1 b2 c1 c2 k1 k2 => by
    refine (psplit_any V l hl).mono ?_
    rintro e w' ⟨a, n, c, rfl, hS⟩
    have hN : Nw V w' := hS.elim (fun _ h => h.2.2)
    obtain ⟨q0, q1, q2⟩ := spA_len hS
    exact ⟨a, n, c, rfl, q1, q2, hN.heap k1, hN.heap k2, hN, fun h0 => by rw [← q0]; unfold splF; rw [if_pos h0]⟩
  have HR : Hid (rfE ⟨B, E, D⟩ l n = if splE l ≠ 0 then splE l else if D < ((cps l).length : Int) then 181 else if n < 0 then 1 else if B < n then 182 else 0) := by show _ = _; unfold rfE; rw [if_neg h1]
  clear hl
  obtain ⟨z, hz⟩ : ∃ z, z = splE l := ⟨_, rfl⟩
  rw [← hz] at HS HR
  obtain ⟨m, hm⟩ : ∃ m, m = (cps l).length := ⟨_, rfl⟩
  rw [← hm] at HS HR
  clear hz hm
  obtain ⟨rf, hrf⟩ : ∃ rf, rf = rfE ⟨B, E, D⟩ l n := ⟨_, rfl⟩
  rw [← hrf] at HF HR
  clear hrf
  generalize mk l = x at *
  have hd1 : decide (E < 1) = false := decide_eq_false h1
  go_enter Try.func28, Try.ntmps28
  go_wp2_with (go_at_call 33; with_reducible refine (HS.out _ w.heap.size (w.heap.size + 1) _ _ (two_rows _ _ _).1 (two_rows _ _ _).2).mono ?_; rintro e w1 ⟨a, N, c, rfl, q1, q2, r1, r2, H1⟩; obtain ⟨y0, y1, y2⟩ := row3 r1; obtain ⟨y3, y4, y5⟩ := row3 r2)
  · exact HF.out z _ (rf_1 HR.out (by assumption)) rfl _ ((((Fr.refl _ _).alloc _).alloc _).trans H1.out.1)
  · exact HF.out 181 181 (rf_2 HR.out (by assumption) H1.out.2 (by assumption)) rfl _ ((((Fr.refl _ _).alloc _).alloc _).trans H1.out.1)
  · exact HF.out 1 1 (rf_3 HR.out (by assumption) H1.out.2 (by assumption) (by assumption)) rfl _ ((((Fr.refl _ _).alloc _).alloc _).trans H1.out.1)
  · exact HF.out 182 182 (rf_4 HR.out (by assumption) H1.out.2 (by assumption) (by assumption) (by assumption)) rfl _ ((((Fr.refl _ _).alloc _).alloc _).trans H1.out.1)
  · exact HF.out 0 0 (rf_5 HR.out (by assumption) H1.out.2 (by assumption) (by assumption) (by assumption)) rfl _ ((((Fr.refl _ _).alloc _).alloc _).trans H1.out.1)
end Go.Proofs.Ytfjjgjkgicabjaa

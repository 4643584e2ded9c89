import Derived.Test.YtkpkiajehclbhaaBjC
namespace Go.Proofs.Ytkpkiajehclbhaa
open Go.RowKit
set_option linter.unusedVariables false
variable {wb : Nat} {og : Option Nat} {V n : Nat} {w : World}
theorem Wr.cells (h : Wr wb og V n w) : ∃ a c, w.cell? ⟨wb, 0, none⟩ = some (.slice a ((n + 7) / 8) c) ∧ w.cell? ⟨wb, 1, none⟩ = some (.int .i64 n) ∧ w.frozen? ⟨wb, 0, none⟩ = false ∧ w.frozen? ⟨wb, 1, none⟩ = false ∧ (n + 7) / 8 ≤ c ∧ c < 9223372036854775808 ∧ Og og (.slice a ((n + 7) / 8) c) (lows V ((n + 7) / 8)) w := by
  obtain ⟨vb, h1, h2⟩ := h.row
  obtain ⟨a, c, e, h3, h4⟩ := h2.form
  rw [lows_length] at e h3
  subst e
  exact ⟨a, c, (row_cell h1 0 _ rfl).1, (row_cell h1 1 _ rfl).1, (row_cell h1 0 _ rfl).2, (row_cell h1 1 _ rfl).2, h3, h4, h2⟩
theorem Wr.go (h : Wr wb og V n w) (q : Nat) (z : Int) (hz : z = q) (hq : (q + 7) / 8 = (n + 7) / 8) (hV : V < 2 ^ q) : Wr wb og V q (w.setCell ⟨wb, 1, none⟩ (.int .i64 z)) ∧ Fr (fun k => k = wb) w (w.setCell ⟨wb, 1, none⟩ (.int .i64 z)) := by
  subst hz
  obtain ⟨vb, h1, h2⟩ := h.row
  have f : Fr (fun k => k = wb) w (w.setCell ⟨wb, 1, none⟩ (.int .i64 q)) := (Fr.refl _ _).setCell _ _ (.inl rfl)
  exact ⟨⟨⟨vb, row_set h1 1 _, by rw [hq]; exact h2.kept f (fun g hg e => h.ne (by rw [hg, e]))⟩, h.ne, hV⟩, f⟩
theorem up8_ge (n : Nat) : n ≤ up8 n ∧ up8 n < n + 8 ∧ up8 n % 8 = 0 ∧ (up8 n + 7) / 8 = (n + 7) / 8 := by unfold up8; omega
theorem lt_up {V n m : Nat} (h : V < 2 ^ n) (hm : n ≤ m) : V < 2 ^ m := Nat.lt_of_lt_of_le h (Nat.pow_le_pow_right (by decide) hm)
set_option maxHeartbeats 8000000 in
theorem walign_any (h : Wr wb og V n w) (hn : n ≤ 1000000000000) : Calls Try.prog 25 #[.pointer (some ⟨wb, 0, none⟩)] w fun e w' => (∃ r, e = .returned r) ∧ Wr wb og V (up8 n) w' ∧ Fr (fun k => k = wb) w w' := by
  obtain ⟨P, hP⟩ : ∃ P : Ending → World → Prop, P = fun e w' => (∃ r, e = .returned r) ∧ Wr wb og V (up8 n) w' ∧ Fr (fun k => k = wb) w w' := ⟨_, rfl⟩
  rw [← hP]
  obtain ⟨u1, u2, u3, u4⟩ := up8_ge n
  have HA : Hid (Calls Try.prog 44 #[.int .i64 n] w fun e w' => e = .returned (.int .i64 (up8 n)) ∧ w' = w) := aligned_any n (by omega) w
  have HF : Hid (∀ r, P (.returned r) (w.setCell ⟨wb, 1, none⟩ (.int .i64 (up8 n)))) := fun r => by rw [hP]; exact ⟨⟨_, rfl⟩, h.go (up8 n) _ rfl u4 (lt_up h.vl u1)⟩
  obtain ⟨a, c, x0, x1, x2, x3, _⟩ := h.cells
  clear hP h x0 u2 u3 u4 u1
  generalize up8 n = q at *
  go_enter Try.func25, Try.ntmps25
  go_wp2_with (first | (go_at_call 44; (with_reducible refine HA.out.mono ?_); rintro e w1 ⟨rfl, rfl⟩))
  go_end0
  exact HF.out _
set_option maxHeartbeats 8000000 in
theorem wlen_any (h : Wr wb og V n w) : Calls Try.prog 31 #[.pointer (some ⟨wb, 0, none⟩)] w fun e w' => e = .returned (.int .i64 n) ∧ w' = w := by
  obtain ⟨P, hP⟩ : ∃ P : Ending → World → Prop, P = fun e w' => e = .returned (.int .i64 n) ∧ w' = w := ⟨_, rfl⟩
  rw [← hP]
  have HF : Hid (P (.returned (.int .i64 n)) w) := by
    show P _ _
    rw [hP]; exact ⟨rfl, rfl⟩
  obtain ⟨a, c, x0, x1, x2, x3, _⟩ := h.cells
  clear hP h x0
  go_enter Try.func31, Try.ntmps31
  go_wp2
  exact HF.out
set_option maxHeartbeats 8000000 in
theorem wdone_any (h : Wr wb og V n w) (hn : n ≤ 999999999999000) : Calls Try.prog 29 #[.pointer (some ⟨wb, 0, none⟩)] w fun e w' => ∃ r, e = .returned r ∧ Mine (fun k => k < w.heap.size) r (lows V ((n + 7) / 8)) w' ∧ Nw w w' := by
  obtain ⟨P, hP⟩ : ∃ P : Ending → World → Prop, P = fun e w' => ∃ r, e = .returned r ∧ Mine (fun k => k < w.heap.size) r (lows V ((n + 7) / 8)) w' ∧ Nw w w' := ⟨_, rfl⟩
  rw [← hP]
  obtain ⟨a, c, x0, x1, x2, x3, x4, x5, hO⟩ := h.cells
  have HC : Hid (Calls Try.prog 45 #[.slice a ((n + 7) / 8) c] w fun e w' => ∃ r, e = .returned r ∧ Hid (P (.returned r) w')) := by
    refine (clone_any w _ _ (hO.sl.mono (fun _ h => h.elim)) (by rw [lows_length]; omega)).mono ?_
    rintro e w' ⟨r, rfl, h1, h2⟩
    refine ⟨r, rfl, ?_⟩
    show P _ _
    rw [hP]; exact ⟨r, rfl, h1, h2⟩
  clear hP h x1 x2 x3 hO
  generalize (n + 7) / 8 = L at *
  go_enter Try.func29, Try.ntmps29
  go_wp2_with (first | (go_at_call 45; (with_reducible refine HC.out.mono ?_); rintro e w1 ⟨r, rfl, HF⟩))
  exact HF.out
theorem lows_add (V J : Nat) (b : List By) (h : V < 256 ^ J) : lows V J ++ b = lows (V + le b * 256 ^ J) (J + b.length) ∧ V + le b * 256 ^ J < 256 ^ (J + b.length) := by
  have h1 := le_lt b
  have h2 : V + le b * 256 ^ J < 256 ^ (J + b.length) := by
    have h3 : (le b + 1) * 256 ^ J ≤ 256 ^ b.length * 256 ^ J := Nat.mul_le_mul_right _ h1
    rw [Nat.pow_add, Nat.mul_comm (256 ^ J)]
    rw [Nat.add_mul] at h3
    omega
  refine ⟨le_inj _ _ (by rw [List.length_append, lows_length, lows_length]) ?_, h2⟩
  rw [le_append, le_lows, le_lows, lows_length, Nat.mod_eq_of_lt h, Nat.mod_eq_of_lt h2, Nat.mul_comm]
set_option maxHeartbeats 8000000 in
set_option maxRecDepth 100000 in
theorem wadd_any (h : Wr wb og V n w) (hn : n ≤ 1000000000000) (v : Value) (b : List By) (hb : Sl (fun k => k = wb) v b w) (hbl : b.length ≤ 1000000000) : Calls Try.prog 27 #[.pointer (some ⟨wb, 0, none⟩), v] w fun e w' => (∃ r, e = .returned r) ∧ ∃ og', Wr wb og' (V + le b * 2 ^ up8 n) (up8 n + 8 * b.length) w' ∧ Fr (fun k => k = wb ∨ og = some k) w w' ∧ Went og og' w := by
  obtain ⟨P, hP⟩ : ∃ P : Ending → World → Prop, P = fun e w' => (∃ r, e = .returned r) ∧ ∃ og', Wr wb og' (V + le b * 2 ^ up8 n) (up8 n + 8 * b.length) w' ∧ Fr (fun k => k = wb ∨ og = some k) w w' ∧ Went og og' w := ⟨_, rfl⟩
  rw [← hP]
  obtain ⟨u1, u2, u3, u4⟩ := up8_ge n
  obtain ⟨u, hu⟩ : ∃ u, u = up8 n := ⟨_, rfl⟩
  rw [← hu] at u1 u2 u3 u4
  obtain ⟨q, hq⟩ : ∃ q, q = u + 8 * b.length := ⟨_, rfl⟩
  obtain ⟨ab, cb, rfl, hcb, hcb2⟩ := hb.form
  have HC : Hid (Calls Try.prog 25 #[.pointer (some ⟨wb, 0, none⟩)] w fun e w1 => (∃ r, e = .returned r) ∧ ∃ a L c a2 L2 c2 W, w1.cell? ⟨wb, 0, none⟩ = some (.slice a L c) ∧ Hid (∀ ty, (Builtin.append_ #[22, 22] ty #[.slice a L c, .slice ab b.length cb]).run Try.prog w1 = .ok (.slice a2 L2 c2) W) ∧ (∃ x, W.cell? ⟨wb, 0, none⟩ = some x) ∧ W.frozen? ⟨wb, 0, none⟩ = false ∧ (W.setCell ⟨wb, 0, none⟩ (.slice a2 L2 c2)).cell? ⟨wb, 1, none⟩ = some (.int .i64 u) ∧ (W.setCell ⟨wb, 0, none⟩ (.slice a2 L2 c2)).frozen? ⟨wb, 1, none⟩ = false ∧ Hid (∀ r, P (.returned r) ((W.setCell ⟨wb, 0, none⟩ (.slice a2 L2 c2)).setCell ⟨wb, 1, none⟩ (.int .i64 q)))) := by
    refine (walign_any h hn).mono ?_
    rintro e w1 ⟨he, hW, hF⟩
    rw [← hu] at hW
    obtain ⟨a, c, x0, x1, x2, x3, x4, x5, hO⟩ := hW.cells
    obtain ⟨v', og', W, k1, k2, k3, k4⟩ := og_app w1 og _ _ hO _ b ((hb.kept hF (fun g hg => hg)).mono (fun _ h => h.elim)) (by rw [lows_length]; omega)
    obtain ⟨a2, c2, e2, _, _⟩ := k2.form
    subst e2
    obtain ⟨vb, r1, _⟩ := hW.row
    have hwb1 := hW.lt
    have hrow := row_kept r1 k3 h.ne
    have hne : og' ≠ some wb := k4.ne wb h.ne hwb1
    have hrow2 := row_set hrow 0 (.slice a2 (lows V ((u + 7) / 8) ++ b).length c2)
    have f1 : Fr (fun k => k = wb) W (W.setCell ⟨wb, 0, none⟩ (.slice a2 (lows V ((u + 7) / 8) ++ b).length c2)) := (Fr.refl _ _).setCell _ _ (.inl rfl)
    refine ⟨he, a, _, c, a2, _, c2, W, x0, k1, ⟨_, (row_cell hrow 0 _ rfl).1⟩, (row_cell hrow 0 _ rfl).2, (row_cell hrow2 1 _ rfl).1, (row_cell hrow2 1 _ rfl).2, fun r => ?_⟩
    rw [hP]
    have f2 : Fr (fun k => k = wb) (W.setCell ⟨wb, 0, none⟩ (.slice a2 (lows V ((u + 7) / 8) ++ b).length c2)) ((W.setCell ⟨wb, 0, none⟩ (.slice a2 (lows V ((u + 7) / 8) ++ b).length c2)).setCell ⟨wb, 1, none⟩ (.int .i64 q)) := (Fr.refl _ _).setCell _ _ (.inl rfl)
    have hVJ : V < 256 ^ ((u + 7) / 8) := by rw [pow256]; exact lt_up hW.vl (by omega)
    obtain ⟨e3, e4⟩ := lows_add V ((u + 7) / 8) b hVJ
    have hk2 := (k2.kept f1 (fun g hg e => hne (by rw [hg, e]))).kept f2 (fun g hg e => hne (by rw [hg, e]))
    have hq8 : (q + 7) / 8 = (u + 7) / 8 + b.length := by omega
    have e5 : 256 ^ ((u + 7) / 8) = 2 ^ u := by rw [pow256]; congr 1; omega
    refine ⟨⟨_, rfl⟩, og', ?_, ?_, ?_⟩
    · rw [← hu, ← hq]
      refine ⟨⟨_, row_set hrow2 1 _, ?_⟩, hne, ?_⟩
      · rw [hq8, ← e5, ← e3]; exact hk2
      · rw [e5] at e4
        refine Nat.lt_of_lt_of_le e4 ?_
        rw [pow256]; exact Nat.pow_le_pow_right (by decide) (by omega)
    · exact (((hF.mono (fun i hi => .inl (.inl hi))).trans (k3.mono (fun i hi => .inl (.inr hi)))).trans (f1.mono (fun i hi => .inl (.inl hi)))).trans (f2.mono (fun i hi => .inl (.inl hi)))
    · exact (Went.refl og w).trans k4 hF.size
  have hqi : (u : Int) + 8 * (b.length : Int) = (q : Int) := by omega
  have hqb : q ≤ 1008000000008 := by omega
  have hub : u ≤ 1000000000008 := by omega
  clear hP h hb hu hq u3 u4
  generalize b.length = B at *
  go_enter Try.func27, Try.ntmps27
  go_upto_region 1 with (first | (go_at_call 25; (with_reducible refine HC.out.mono ?_); rintro e w1 ⟨⟨r, rfl⟩, a, L, c, a2, L2, c2, W, x0, HAP, ⟨x, x1⟩, x2, x3, x4, HF⟩))
  go_upto_region 2 with (first
      | (at_builtin; refine Lib.wpList_append_run _ rfl _ _ 22 22 rfl (.slice a L c) (.slice ab B cb) (by simp [Act.eval]) (by simp [Act.eval]) _ _ (HAP.out _) ?_))
  generalize W.setCell ⟨wb, 0, none⟩ (.slice a2 L2 c2) = W2 at *
  clear HAP x0 x1 x2 HC
  go_wp2_with fail
  go_end0
  exact HF.out _
end Go.Proofs.Ytkpkiajehclbhaa

import Derived.Test.YtkpkiajehclbhaaVaq
namespace Go.Proofs.Ytkpkiajehclbhaa
open Go.RowKit
set_option linter.unusedVariables false
/-- The word of a symbol. -/
def wdP (ls : List Nat) (i : Nat) : Nat × Nat := if ls.getD i 0 = 0 then (0, 0) else (rev (ls.getD i 0) (cd ls i), ls.getD i 0)
/-- The rows while the words are told. -/
def fe (ls : List Nat) (I n j : Nat) : Nat := if j = 0 then ct ls n else (if j = 1 then nm ls n else pc ls n) + ct (ls.take I) n
theorem ct_take (ls : List Nat) (I n : Nat) (hI : I < ls.length) : ct (ls.take (I + 1)) n = ct (ls.take I) n + (if ls.getD I 0 = n ∧ n ≠ 0 then 1 else 0) := by
  unfold ct
  by_cases h : n = 0
  · simp [h]
  · rw [if_neg h, if_neg h, count_take_succ ls I n hI]
    congr 1
    by_cases e : ls.getD I 0 = n
    · rw [if_pos e, if_pos ⟨e, h⟩]
    · rw [if_neg e, if_neg (fun k => e k.1)]
theorem fe_rk (ls : List Nat) (I m : Nat) (hm : ls.getD I 0 = m) (h0 : m ≠ 0) : fe ls I m 2 = ps ls I ∧ fe ls I m 1 = cd ls I := by
  unfold fe ps cd rk
  rw [ct_pos (ls.take I) m h0, hm]
  exact ⟨rfl, rfl⟩
theorem fe_step (ls : List Nat) (I m : Nat) (hI : I < ls.length) (hm : ls.getD I 0 = m) (n j : Nat) (hj : j < 3) : (m = 0 → fe ls I n j = fe ls (I + 1) n j) ∧ (m ≠ 0 → upd (upd (fe ls I) m 2 (ps ls I + 1)) m 1 (cd ls I + 1) n j = fe ls (I + 1) n j) := by
  have hc := ct_take ls I n hI
  rw [hm] at hc
  constructor
  · intro h0
    rw [if_neg (fun k => k.2 (k.1.symm.trans h0))] at hc
    unfold fe
    rw [hc]
    rfl
  · intro h0
    obtain ⟨r1, r2⟩ := fe_rk ls I m hm h0
    by_cases hn : n = m
    · subst hn
      have hc' : ct (ls.take (I + 1)) n = ct (ls.take I) n + 1 := by rw [hc, if_pos ⟨rfl, h0⟩]
      rcases (show j = 0 ∨ j = 1 ∨ j = 2 by omega) with rfl | rfl | rfl
      · simp [upd, fe]
      · simp only [upd, true_and, if_true]
        rw [← r2]
        unfold fe
        simp only [hc']
        simp
        omega
      · simp only [upd, true_and, if_true]
        rw [if_neg (by decide), ← r1]
        unfold fe
        simp only [hc']
        simp
        omega
    · have hc' : ct (ls.take (I + 1)) n = ct (ls.take I) n := by rw [hc, if_neg (fun h => hn h.1.symm), Nat.add_zero]
      unfold upd
      rw [if_neg (fun h => hn h.1), if_neg (fun h => hn h.1)]
      unfold fe
      rw [hc']
structure EwI (w : World) (cb gw gs pb eb L M : Nat) (f0 : Nat → Nat → Nat) (ls : List Nat) (I J : Nat) (ws : List (Nat × Nat)) (ss : List Int) (wr : World) : Prop where
  c : CdM cb gw gs L M f0 ws ss wr
  W : ∀ i, i < L → ws[i]? = some (if i < I then wdP ls i else (0, 0))
  S : ∀ i, i < I → i < L → ls.getD i 0 ≠ 0 → ss[ps ls i]? = some (i : Int)
  p : wr.heap[pb]? = some (.cells #[.pointer (some ⟨cb, 0, none⟩)] 55)
  e : wr.heap[eb]? = some (.cells (rowC (fe ls J)) 90)
  n1 : pb ≠ gw
  n2 : pb ≠ gs
  n3 : eb ≠ gw
  n4 : eb ≠ gs
  n5 : eb ≠ cb
  n6 : eb ≠ pb
  lw : w.heap.size ≤ eb
  fr : Fr (fun k => k = gw ∨ k = gs) w wr
variable {w : World} {cb gw gs pb eb L M : Nat} {f0 : Nat → Nat → Nat} {ls : List Nat} {I J : Nat} {ws : List (Nat × Nat)} {ss : List Int} {wr : World}
theorem EwI.keep {V : World} (h : EwI w cb gw gs pb eb L M f0 ls I J ws ss wr) (k : Nw wr V) : EwI w cb gw gs pb eb L M f0 ls I J ws ss V :=
  ⟨h.c.nw k, h.W, h.S, k.heap h.p, k.heap h.e, h.n1, h.n2, h.n3, h.n4, h.n5, h.n6, h.lw, h.fr.trans k.any⟩
theorem EwI.cell (h : EwI w cb gw gs pb eb L M f0 ls I J ws ss wr) (n j : Nat) (hn : n < 16) (hj : j < 3) : wr.cell? ⟨eb, n * 3 + j, none⟩ = some (.int .i64 ((fe ls J n j : Nat) : Int)) ∧ wr.frozen? ⟨eb, n * 3 + j, none⟩ = false := row_cell h.e _ _ (rowC_at _ n j hn hj)
/-- A symbol without a word. -/
theorem EwI.skip (h : EwI w cb gw gs pb eb L M f0 ls I I ws ss wr) (hI : I < ls.length) (hL : ls.length = L) (h0 : ls.getD I 0 = 0) : EwI w cb gw gs pb eb L M f0 ls (I + 1) (I + 1) ws ss wr := by
  refine ⟨h.c, fun i hi => ?_, fun i hi hl hn => ?_, h.p, ?_, h.n1, h.n2, h.n3, h.n4, h.n5, h.n6, h.lw, h.fr⟩
  · rw [h.W i hi]
    by_cases e : i = I
    · subst e
      rw [if_neg (by omega), if_pos (by omega), wdP, if_pos h0]
    · by_cases e2 : i < I
      · rw [if_pos e2, if_pos (by omega)]
      · rw [if_neg e2, if_neg (by omega)]
  · have : i ≠ I := fun e => hn (by rw [e]; exact h0)
    exact h.S i (by omega) hl hn
  · rw [h.e]
    congr 2
    exact rowC_congr _ _ (fun n j _ hj => (fe_step ls I 0 hI h0 n j hj).1 rfl)
/-- A word is told. -/
theorem EwI.tell (h : EwI w cb gw gs pb eb L M f0 ls I I ws ss wr) (hk : Cod ls) (hI : I < ls.length) (hL : ls.length = L) (hM : nwd ls = M) (m : Nat) (hm : ls.getD I 0 = m) (h0 : m ≠ 0) (x : Nat) (hx : x = rev m (cd ls I)) :
    Hid (Calls Try.prog 51 #[.int .i64 I, .int .i64 (ps ls I), .agg #[.int .u32 x, .int .i64 m], .pointer (some ⟨pb, 0, none⟩)] wr.drew fun e w1 => (∃ r, e = .returned r) ∧ w1.cell? ⟨eb, m * 3 + 2, none⟩ = some (.int .i64 (ps ls I)) ∧ w1.cell? ⟨eb, m * 3 + 1, none⟩ = some (.int .i64 (cd ls I)) ∧ Hid (∃ ws' ss', EwI w cb gw gs pb eb L M f0 ls (I + 1) I ws' ss' w1)) := by
  have h' := h.keep ((Fr.refl _ wr).drew)
  have hp := hk.ps_lt I hI (by rw [hm]; exact h0)
  refine (tell_any h'.c pb h'.p h'.n1 h'.n2 I (ps ls I) x m (by omega) (by omega)).mono ?_
  rintro e w1 ⟨he, hc, hf⟩
  have h15 := hk.each I
  rw [hm] at h15
  have hE : EwI w cb gw gs pb eb L M f0 ls (I + 1) I (ws.set I (x, m)) (ss.set (ps ls I) (I : Int)) w1 := by
    refine ⟨hc, fun i hi => ?_, fun i hi hl hn => ?_, row_kept h'.p hf (fun e => ?_), row_kept h'.e hf (fun e => ?_), h.n1, h.n2, h.n3, h.n4, h.n5, h.n6, h.lw, h'.fr.trans hf⟩
    · rw [List.getElem?_set]
      by_cases e : I = i
      · subst e
        rw [if_pos rfl, if_pos (by rw [h.c.wl]; exact hi), if_pos (by omega), wdP, if_neg (by rw [hm]; exact h0), hm, hx]
      · rw [if_neg e, h.W i hi]
        by_cases e2 : i < I
        · rw [if_pos e2, if_pos (by omega)]
        · rw [if_neg e2, if_neg (by omega)]
    · rw [List.getElem?_set]
      by_cases e : i = I
      · subst e
        rw [if_pos rfl, if_pos (by rw [h.c.sl]; omega)]
      · rw [if_neg (fun e2 => e (hk.ps_inj i I (by omega) hI hn (by rw [hm]; exact h0) e2.symm))]
        exact h.S i (by omega) hl hn
    · rcases e with e | e
      · exact h.n1 e
      · exact h.n2 e
    · rcases e with e | e
      · exact h.n3 e
      · exact h.n4 e
  obtain ⟨r1, r2⟩ := fe_rk ls I m hm h0
  have c2 := (hE.cell m 2 (by omega) (by omega)).1
  have c1 := (hE.cell m 1 (by omega) (by omega)).1
  rw [r1] at c2
  rw [r2] at c1
  exact ⟨he, c2, c1, _, _, hE⟩
/-- Its row goes on. -/
theorem EwI.next (h : EwI w cb gw gs pb eb L M f0 ls (I + 1) I ws ss wr) (hk : Cod ls) (hI : I < ls.length) (m : Nat) (hm : ls.getD I 0 = m) (h0 : m ≠ 0) :
    wr.frozen? ⟨eb, m * 3 + 2, none⟩ = false ∧ (wr.setCell ⟨eb, m * 3 + 2, none⟩ (.int .i64 ((ps ls I : Int) + 1))).cell? ⟨eb, m * 3 + 1, none⟩ = some (.int .i64 (cd ls I)) ∧ (wr.setCell ⟨eb, m * 3 + 2, none⟩ (.int .i64 ((ps ls I : Int) + 1))).frozen? ⟨eb, m * 3 + 1, none⟩ = false ∧ EwI w cb gw gs pb eb L M f0 ls (I + 1) (I + 1) ws ss ((wr.setCell ⟨eb, m * 3 + 2, none⟩ (.int .i64 ((ps ls I : Int) + 1))).setCell ⟨eb, m * 3 + 1, none⟩ (.int .i64 ((cd ls I : Int) + 1))) := by
  have h15 := hk.each I
  rw [hm] at h15
  obtain ⟨r1, r2⟩ := fe_rk ls I m hm h0
  have e1 := row_set h.e (m * 3 + 2) (.int .i64 ((ps ls I : Int) + 1))
  rw [rowC_set _ m 2 (ps ls I + 1) (by omega) (by omega) _ (by omega)] at e1
  have c1 := row_cell e1 _ _ (rowC_at _ m 1 (by omega) (by omega))
  rw [show upd (fe ls I) m 2 (ps ls I + 1) m 1 = cd ls I by rw [upd, if_neg (by omega), r2]] at c1
  have e2 := row_set e1 (m * 3 + 1) (.int .i64 ((cd ls I : Int) + 1))
  rw [rowC_set _ m 1 (cd ls I + 1) (by omega) (by omega) _ (by omega), rowC_congr _ (fe ls (I + 1)) (fun n j _ hj => (fe_step ls I m hI hm n j hj).2 h0)] at e2
  have hf : Fr (fun k => k = eb) wr ((wr.setCell ⟨eb, m * 3 + 2, none⟩ (.int .i64 ((ps ls I : Int) + 1))).setCell ⟨eb, m * 3 + 1, none⟩ (.int .i64 ((cd ls I : Int) + 1))) := Fr.setCell (Fr.setCell (Fr.refl (fun k => k = eb) wr) ⟨eb, m * 3 + 2, none⟩ _ (.inl rfl)) ⟨eb, m * 3 + 1, none⟩ _ (.inl rfl)
  refine ⟨(h.cell m 2 (by omega) (by omega)).2, c1.1, c1.2, h.c.kept hf (fun e => h.n5 e.symm) (fun e => h.n3 e.symm) (fun e => h.n4 e.symm), h.W, h.S, row_kept h.p hf (fun e => h.n6 e.symm), e2, h.n1, h.n2, h.n3, h.n4, h.n5, h.n6, h.lw, Fr.then h.fr hf (fun i hi => .inr (by have := h.lw; omega))⟩
end Go.Proofs.Ytkpkiajehclbhaa

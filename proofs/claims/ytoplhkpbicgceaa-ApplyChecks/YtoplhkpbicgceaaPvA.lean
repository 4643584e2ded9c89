import Derived.Test.YtoplhkpbicgceaaPuD
namespace Go.Proofs.Ytoplhkpbicgceaa
open Go.RowKit
set_option linter.unusedVariables false
/-! ### Split -/
theorem pushO (V : World) (og : Option Nat) (a : Option Addr) (n c : Nat) (l : List Tx) (h : OgR RS og (.slice a n c) l V) (hn : l.length = n) (hl : n ≤ 8796093022208) (x : Tx) :
    ∃ og' a' c' W, Hid (∀ ty, (Builtin.append_ #[38, 38] ty #[.slice a n c, .slice (some ⟨V.heap.size, 0, none⟩) 1 1]).run Try.prog (V.alloc (.cells #[.string (mk x)] 9)) = .ok (.slice a' (n + 1) c') W) ∧
      OgR RS og' (.slice a' (n + 1) c') (l ++ [x]) W ∧ Fr (fun k => og = some k) V W ∧ Went og og' V ∧ n + 1 ≤ c' ∧ c' < 9223372036854775808 := by
  subst hn
  have hN : Nw V (V.alloc (.cells #[.string (mk x)] 9)) := (Fr.refl _ _).alloc _
  have hb := lit1 V x
  obtain ⟨v', og', W, k1, k2, k3, k4⟩ := ogR_app rsOk _ og _ l (h.nw hN) (.slice (some ⟨V.heap.size, 0, none⟩) 1 1) [x] hb.anyS (by simp only [RS, List.length_singleton]; omega) (by simp only [List.length_singleton]; omega)
  obtain ⟨a', c', e, q1, q2⟩ := k2.form
  rw [List.length_append, List.length_singleton] at e q1
  subst e
  refine ⟨og', a', c', W, k1, k2, hN.any.trans k3, ?_, q1, q2⟩
  have e2 : (V.alloc (.cells #[.string (mk x)] 9)).heap.size = V.heap.size + 1 := by simp
  rcases k4 with e | ⟨g, e, hg⟩
  · exact .inl e
  · exact .inr ⟨g, e, by omega⟩
def ns (p : Tx) : Bool := !stays p
/-- How Split's list stands, in its cell. -/
def spJ (w0 : World) (cb : Nat) (d : List Tx) (V : World) : Prop := ∃ og a n c, V.cell? ⟨cb, 0, none⟩ = some (.slice a n c) ∧ V.frozen? ⟨cb, 0, none⟩ = false ∧ OgR RS og (.slice a n c) (d.filter ns) V ∧ (∀ g, og = some g → w0.heap.size ≤ g ∧ g ≠ cb) ∧ Nw w0 V ∧ w0.heap.size ≤ cb ∧ (d.filter ns).length = n ∧ n ≤ c ∧ c < 9223372036854775808
def upT (d : List Tx) (p : Tx) : Bool := decide (p = [46, 46])
theorem og_len {og : Option Nat} {a : Option Addr} {n c : Nat} {l : List Tx} {V : World} (h : OgR RS og (.slice a n c) l V) : l.length = n ∧ n ≤ c ∧ c < 9223372036854775808 := by
  obtain ⟨a', c', e, q1, q2⟩ := h.form
  generalize hq : l.length = q at e q1
  cases e
  exact ⟨rfl, q1, q2⟩
set_option maxHeartbeats 4000000 in
set_option maxRecDepth 100000 in
theorem split1_any (w0 : World) (cb : Nat) (d : List Tx) (p : Tx) (w : World) (hd : d.length < 5000) (h : spJ w0 cb d w) :
    Calls Try.prog 23 #[.string (mk p), .pointer (some ⟨cb, 0, none⟩)] w fun e w' => e = .returned (.bool (upT d p)) ∧ Hid (spJ w0 cb (d ++ [p]) w') := by
  obtain ⟨P, hP⟩ : ∃ P : Ending → World → Prop, P = fun e w' => e = .returned (.bool (upT d p)) ∧ Hid (spJ w0 cb (d ++ [p]) w') := ⟨_, rfl⟩
  rw [← hP]
  have HS := tHid (fun V => pstays_any p V)
  have hup := up_eq p
  obtain ⟨og, a, n, c, h1, h2, h3, h4, h5, h6, h7, h8, h9⟩ := h
  have hfl : (d.filter ns).length ≤ d.length := List.length_filter_le _ _
  cases hs : stays p with
  | true =>
    have HF : Hid (P (.returned (.bool (decide (p = [46, 46])))) w) := by
      show P _ _
      rw [hP]
      refine ⟨rfl, ?_⟩
      show spJ _ _ _ _
      have : (d ++ [p]).filter ns = d.filter ns := by rw [List.filter_append]; simp [ns, hs]
      unfold spJ
      rw [this]
      exact ⟨og, a, n, c, h1, h2, h3, h4, h5, h6, h7, h8, h9⟩
    rw [hs] at HS
    clear hP hs h1 h2 h3 h4 h5 h6 h7 h8 h9 hfl
    generalize decide (p = [46, 46]) = B at *
    generalize mk p = s at *
    go_enter Try.func23, Try.ntmps23
    go_wp2_with (first | (go_at_call 24; with_reducible refine (HS.out _).mono ?_; rintro e w1 ⟨rfl, rfl⟩))
    exact HF.out
  | false =>
    obtain ⟨og', a', c', W, HA, q2, q3, q4, q5, q6⟩ := pushO w og a n c _ h3 h7 (by omega) p
    have hcb : cb < w.heap.size := World.block_lt_of_cell? _ _ h1
    have hne : og ≠ some cb := fun e => (h4 cb e).2 rfl
    have c1 : W.cell? ⟨cb, 0, none⟩ = some (.slice a n c) := q3.cellv h1 hne
    have c2 : W.frozen? ⟨cb, 0, none⟩ = false := by
      have := q3.block cb hcb hne
      rw [← h2]; unfold World.frozen?; rw [this]
    obtain ⟨W2, hW2⟩ : ∃ W2, W.setCell ⟨cb, 0, none⟩ (.slice a' (n + 1) c') = W2 := ⟨_, rfl⟩
    have hne' : og' ≠ some cb := q4.ne cb hne hcb
    have hF2 : Fr (fun k => k = cb) W W2 := by rw [← hW2]; exact (Fr.refl _ _).setCell _ _ (.inl rfl)
    have HF : Hid (P (.returned (.bool (decide (p = [46, 46])))) W2) := by
      show P _ _
      rw [hP]
      refine ⟨rfl, ?_⟩
      show spJ _ _ _ _
      have hfe : (d ++ [p]).filter ns = d.filter ns ++ [p] := by rw [List.filter_append]; simp [ns, hs]
      unfold spJ
      rw [hfe]
      refine ⟨og', a', n + 1, c', ?_, ?_, ?_, ?_, ?_, h6, ?_, q5, q6⟩
      · rw [← hW2]; exact World.cell?_setCell_same _ _ _ c1
      · rw [← hW2, World.frozen?_setCell]; exact c2
      · exact q2.kept hF2 (fun g hg hk => hne' (by rw [hg, hk]))
      · intro g hg
        have hgc : g ≠ cb := fun e => hne' (by rw [hg, e])
        refine ⟨?_, hgc⟩
        rcases q4 with e | ⟨g2, e, hg2⟩
        · exact (h4 g (by rw [← e]; exact hg)).1
        · rw [e] at hg; injection hg with hg; subst hg
          exact Nat.le_trans h5.size hg2
      · refine Fr.then (Fr.then h5 q3 (fun i hi => .inr (h4 i hi).1)) hF2 (fun i hi => .inr (by subst hi; exact h6))
      · rw [List.length_append, List.length_singleton, h7]
    rw [hs] at HS
    clear hP hs h2 h3 h4 h5 h6 h7 hfl q2 q3 q4 hF2 hne hne'
    generalize decide (p = [46, 46]) = B at *
    generalize mk p = s at *
    go_enter Try.func23, Try.ntmps23
    go_wp2_with (first
      | (go_at_call 24; with_reducible refine (HS.out _).mono ?_; rintro e w1 ⟨rfl, rfl⟩)
      | (at_builtin; refine Lib.wpList_append_run _ rfl _ _ 38 38 rfl (.slice a n c) (.slice (some ⟨w.heap.size, 0, none⟩) 1 1) (by simp [Act.eval]) (by simp [Act.eval]) _ _ (HA.out _) ?_))
    exact HF.out
theorem sp_so (w0 : World) (cb : Nat) : So 23 (.pointer (some ⟨cb, 0, none⟩)) 5000 upT (spJ w0 cb) where
  eg := enters_of Try.func23 (by kernel_rfl) rfl
  nw := fun d V V' h hN => by
    obtain ⟨og, a, n, c, h1, h2, h3, h4, h5, h6, h7, h8, h9⟩ := h
    exact ⟨og, a, n, c, hN.cell h1, frozen_nw hN (World.block_lt_of_cell? _ _ h1) h2, h3.nw hN, h4, h5.trans hN, h6, h7, h8, h9⟩
  call := fun d p V hd h => split1_any w0 cb d p V hd h
theorem up_some (d ps : List Tx) : spB upT d ps = decide (([46, 46] : Tx) ∈ ps) := by
  induction ps generalizing d with
  | nil => rfl
  | cons p r ih =>
    rw [spB]
    unfold upT
    by_cases h : p = [46, 46]
    · rw [decide_eq_true h, if_pos rfl, decide_eq_true (by rw [h]; simp)]
    · rw [decide_eq_false h, if_neg (by decide)]
      have := ih (d ++ [p])
      unfold upT at this
      rw [this]
      apply decide_eq_decide.2
      rw [List.mem_cons]
      constructor
      · exact .inr
      · rintro (e | e)
        · exact absurd e.symm h
        · exact e
theorem up_none (d ps : List Tx) (h : ([46, 46] : Tx) ∉ ps) : spD upT d ps = d ++ ps := by
  induction ps generalizing d with
  | nil => rw [spD, List.append_nil]
  | cons p r ih =>
    rw [List.mem_cons, not_or] at h
    rw [spD]
    have hp : upT d p = false := decide_eq_false (fun e => h.1 e.symm)
    rw [hp, if_neg (by decide), ih _ h.2, List.append_assoc, List.singleton_append]
set_option maxHeartbeats 1000000 in
set_option maxRecDepth 100000 in
theorem tooLong_any (l : Tx) (w : World) (hl : l.length ≤ 140737488351232) : Calls Try.prog 28 #[.string (mk l)] w fun e w' => e = .returned (.bool (decide (255 < l.length))) ∧ w = w' := by
  obtain ⟨P, hP⟩ : ∃ P : Ending → World → Prop, P = fun e w' => e = .returned (.bool (decide (255 < l.length))) ∧ w = w' := ⟨_, rfl⟩
  rw [← hP]
  have HF : Hid (P (.returned (.bool (decide ((255 : Int) < ((mk l).size : Int))))) w) := by
    show P _ _
    rw [hP, mk_size]
    refine ⟨?_, rfl⟩
    congr 2
    apply decide_eq_decide.2
    omega
  have hsz : (mk l).size ≤ 140737488351232 := by rw [mk_size]; exact hl
  clear hP hl
  generalize mk l = s at *
  go_enter Try.func28, Try.ntmps28
  go_wp2
  exact HF.out
/-- The first text that is too long. -/
def tlF (ps : List Tx) : Bool := ps.any (fun p => decide (255 < p.length))
theorem tlF_iff (ps : List Tx) : tlF ps = true ↔ ∃ p ∈ ps, 255 < p.length := by unfold tlF; simp
set_option maxHeartbeats 8000000 in
set_option maxRecDepth 100000 in
theorem indexF_any (w : World) (v : Value) (l : List Tx) (hl : SlR RS (fun _ => False) v l w) (hb : ∀ p ∈ l, p.length ≤ 140737488351232) :
    Calls Try.prog 33 #[v, .func (.func 28) #[] #[]] w fun e w' => ∃ z : Int, e = .returned (.int .i64 z) ∧ decide (0 ≤ z) = tlF l ∧ Nw w w' := by
  obtain ⟨P, hP⟩ : ∃ P : Ending → World → Prop, P = fun e w' => ∃ z : Int, e = .returned (.int .i64 z) ∧ decide (0 ≤ z) = tlF l ∧ Nw w w' := ⟨_, rfl⟩
  rw [← hP]
  have HP : Hid (P = fun e w' => ∃ z : Int, e = .returned (.int .i64 z) ∧ decide (0 ≤ z) = tlF l ∧ Nw w w') := hP
  clear hP
  obtain ⟨a1, c1, rfl, k1, k2, _⟩ := hl.form
  have HI1 : Hid (SlR RS (fun _ => False) (.slice a1 l.length c1) l w) := hl
  have HB : Hid (∀ p ∈ l, p.length ≤ 140737488351232) := hb
  clear hl hb
  obtain ⟨L, hL⟩ : ∃ n, n = l.length := ⟨_, rfl⟩
  have HL : Hid (L = l.length) := hL
  rw [← hL] at HI1 k1 ⊢
  clear hL
  have eg := enters_of Try.func28 (by kernel_rfl) rfl
  go_enter Try.func33, Try.ntmps33
  go_wp2
  go_loopg [8] L (fun kx i wr => ∃ (I : Nat), I ≤ L ∧ L - I ≤ kx ∧ i = .int .i64 I ∧ Hid (Nw w wr ∧ tlF (l.take I) = false))
  case atStart => exact ⟨0, by omega, by omega, rfl, Fr.refl _ _, rfl⟩
  case round =>
    obtain ⟨I, hI, hkx, rfl, HI⟩ := hrel
    obtain ⟨hN, hE⟩ := HI.out
    have hLl := HL.out
    by_cases hlt : I < L
    · have hlt' : I < l.length := by omega
      obtain ⟨g1, o1, rfl, _, hcell1⟩ := rs_at (HI1.out.nw hN) I hlt'
      have HC := tHid (fun V => tooLong_any l[I] V (HB.out _ (List.getElem_mem hlt')))
      have htk : tlF (l.take (I + 1)) = decide (255 < l[I].length) := by
        rw [List.take_add_one, List.getElem?_eq_getElem hlt', Option.toList_some]
        unfold tlF at hE ⊢
        rw [List.any_append, hE]; simp
      cases hd : decide (255 < l[I].length) with
      | true =>
        have HF : Hid (P (.returned (.int .i64 I)) wr) := by
          show P _ _
          rw [HP.out]
          refine ⟨I, rfl, ?_, hN⟩
          rw [decide_eq_true (by omega)]
          symm
          rw [tlF_iff]
          exact ⟨l[I], List.getElem_mem hlt', of_decide_eq_true hd⟩
        rw [hd] at HC
        clear HI HP hN hE HI1 hLl HL hd htk HB
        generalize mk l[I] = x at *
        go_wp2_with (first | (go_at_fn 28; with_reducible refine (HC.out _).mono ?_; rintro e w1 ⟨rfl, rfl⟩) | (go_at_call 28; with_reducible refine (HC.out _).mono ?_; rintro e w1 ⟨rfl, rfl⟩))
        exact HF.out
      | false =>
        rw [hd] at htk HC
        have HN := tHid (And.intro hN htk)
        clear HI HP hN hE HI1 hLl HL hd htk HB
        generalize mk l[I] = x at *
        go_wp2_with (first | (go_at_fn 28; with_reducible refine (HC.out _).mono ?_; rintro e w1 ⟨rfl, rfl⟩) | (go_at_call 28; with_reducible refine (HC.out _).mono ?_; rintro e w1 ⟨rfl, rfl⟩))
        go_roundg (L - (I + 1))
        case measure => omega
        case rel => exact ⟨I + 1, by omega, by omega, by first | rfl | (congr 1), HN⟩
    · have HF : Hid (P (.returned (.int .i64 (-1))) wr) := by
        show P _ _
        rw [HP.out]
        refine ⟨-1, rfl, ?_, hN⟩
        rw [List.take_of_length_le (by omega)] at hE
        rw [hE]; decide
      clear HI HP hN hE HI1 hLl HL HB
      go_wp2_with fail
      exact HF.out
set_option maxHeartbeats 4000000 in
set_option maxRecDepth 100000 in
theorem containsF_any (w : World) (v : Value) (l : List Tx) (hl : SlR RS (fun _ => False) v l w) (hb : ∀ p ∈ l, p.length ≤ 140737488351232) :
    Calls Try.prog 27 #[v, .func (.func 28) #[] #[]] w fun e w' => e = .returned (.bool (tlF l)) ∧ Nw w w' := by
  obtain ⟨P, hP⟩ : ∃ P : Ending → World → Prop, P = fun e w' => e = .returned (.bool (tlF l)) ∧ Nw w w' := ⟨_, rfl⟩
  rw [← hP]
  have HC : Hid (Calls Try.prog 33 #[v, .func (.func 28) #[] #[]] w fun e w' => ∃ z : Int, e = .returned (.int .i64 z) ∧ decide (0 ≤ z) = tlF l ∧ Hid (Nw w w')) := indexF_any w v l hl hb
  have HF : Hid (∀ V, Nw w V → P (.returned (.bool (tlF l))) V) := fun V hV => by rw [hP]; exact ⟨rfl, hV⟩
  obtain ⟨a1, c1, rfl, k1, k2, _⟩ := hl.form
  clear hP hl hb
  generalize tlF l = B at *
  generalize l.length = n at *
  go_enter Try.func27, Try.ntmps27
  go_wp2_with (first | (go_at_call 33; with_reducible refine HC.out.mono ?_; rintro e w1 ⟨z, rfl, hz, H1⟩))
  exact HF.out _ H1.out
end Go.Proofs.Ytoplhkpbicgceaa

import Derived.Test.YtoplhkpbicgceaaPuB
namespace Go.Proofs.Ytoplhkpbicgceaa
open Go.RowKit
set_option linter.unusedVariables false
theorem cell_of_row {V : World} {g : Nat} {cs : Array Value} {T : Nat} (h : V.heap[g]? = some (.cells cs T)) (j : Nat) (v : Value) (hv : cs[j]? = some v) : V.cell? ⟨g, j, none⟩ = some v ∧ V.frozen? ⟨g, j, none⟩ = false := by
  constructor <;> simp [World.cell?, World.frozen?, h, hv]
/-! ### Leaves -/
def dst (z : Int) (p : Tx) : Int := if stays p = true then z else if p = [46, 46] then IntKind.i64.wrap (z - 1) else IntKind.i64.wrap (z + 1)
def dpw (z : Int) (ps : List Tx) : Int := ps.foldl dst z
theorem dpw_snoc (z : Int) (ps : List Tx) (p : Tx) : dpw z (ps ++ [p]) = dst (dpw z ps) p := by
  unfold dpw
  rw [List.foldl_append]; rfl
theorem up_eq (l : Tx) : ((mk l).toList == ([46, 46] : List UInt8)) = decide (l = [46, 46]) := tx_eq l _
set_option maxHeartbeats 4000000 in
set_option maxRecDepth 100000 in
theorem leaves1_any (cb : Nat) (p : Tx) (z : Int) (w : World) (hc : w.cell? ⟨cb, 0, none⟩ = some (.int .i64 z)) (hf : w.frozen? ⟨cb, 0, none⟩ = false) :
    Calls Try.prog 34 #[.string (mk p), .pointer (some ⟨cb, 0, none⟩)] w fun e w' => e = .returned (.bool (decide (dst z p < 0))) ∧ Fr (fun k => k = cb) w w' ∧ w'.cell? ⟨cb, 0, none⟩ = some (.int .i64 (dst z p)) ∧ w'.frozen? ⟨cb, 0, none⟩ = false := by
  obtain ⟨P, hP⟩ : ∃ P : Ending → World → Prop, P = fun e w' => e = .returned (.bool (decide (dst z p < 0))) ∧ Fr (fun k => k = cb) w w' ∧ w'.cell? ⟨cb, 0, none⟩ = some (.int .i64 (dst z p)) ∧ w'.frozen? ⟨cb, 0, none⟩ = false := ⟨_, rfl⟩
  rw [← hP]
  have HS := tHid (fun V => pstays_any p V)
  have hup := up_eq p
  have hset : ∀ y : Int, Fr (fun k => k = cb) w (w.setCell ⟨cb, 0, none⟩ (.int .i64 y)) ∧ (w.setCell ⟨cb, 0, none⟩ (.int .i64 y)).cell? ⟨cb, 0, none⟩ = some (.int .i64 y) ∧ (w.setCell ⟨cb, 0, none⟩ (.int .i64 y)).frozen? ⟨cb, 0, none⟩ = false := fun y =>
    ⟨(Fr.refl _ _).setCell _ _ (.inl rfl), World.cell?_setCell_same _ _ _ hc, by rw [World.frozen?_setCell]; exact hf⟩
  cases hs : stays p with
  | true =>
    have hd : dst z p = z := by unfold dst; rw [if_pos hs]
    have HF : Hid (P (.returned (.bool (decide (z < 0)))) w) := by
      show P _ _
      rw [hP, hd]; exact ⟨rfl, Fr.refl _ _, hc, hf⟩
    rw [hs] at HS
    clear hP hd hs hset hup
    generalize mk p = s at *
    go_enter Try.func34, Try.ntmps34
    go_wp2_with (first | (go_at_call 24; with_reducible refine (HS.out _).mono ?_; rintro e w1 ⟨rfl, rfl⟩))
    exact HF.out
  | false =>
    rw [hs] at HS
    by_cases hu : p = [46, 46]
    · have hd : dst z p = IntKind.i64.wrap (z - 1) := by unfold dst; rw [hs, if_neg (by decide), if_pos hu]
      rw [decide_eq_true hu] at hup
      obtain ⟨Y, hY⟩ : ∃ Y, IntKind.i64.wrap (z - 1) = Y := ⟨_, rfl⟩
      rw [hY] at hd
      obtain ⟨W1, hW1⟩ : ∃ W1, w.setCell ⟨cb, 0, none⟩ (.int .i64 Y) = W1 := ⟨_, rfl⟩
      obtain ⟨b1, b2, b3⟩ := hset Y
      rw [hW1] at b1 b2 b3
      have HF : Hid (P (.returned (.bool (decide (Y < 0)))) W1) := by
        show P _ _
        rw [hP, hd]; exact ⟨rfl, b1, b2, b3⟩
      clear hP hd hs hset hu b1
      generalize mk p = s at *
      go_enter Try.func34, Try.ntmps34
      go_wp2_with (first | (go_at_call 24; with_reducible refine (HS.out _).mono ?_; rintro e w1 ⟨rfl, rfl⟩))
      exact HF.out
    · have hd : dst z p = IntKind.i64.wrap (z + 1) := by unfold dst; rw [hs, if_neg (by decide), if_neg hu]
      rw [decide_eq_false hu] at hup
      obtain ⟨Y, hY⟩ : ∃ Y, IntKind.i64.wrap (z + 1) = Y := ⟨_, rfl⟩
      rw [hY] at hd
      obtain ⟨W1, hW1⟩ : ∃ W1, w.setCell ⟨cb, 0, none⟩ (.int .i64 Y) = W1 := ⟨_, rfl⟩
      obtain ⟨b1, b2, b3⟩ := hset Y
      rw [hW1] at b1 b2 b3
      have HF : Hid (P (.returned (.bool (decide (Y < 0)))) W1) := by
        show P _ _
        rw [hP, hd]; exact ⟨rfl, b1, b2, b3⟩
      clear hP hd hs hset hu b1
      generalize mk p = s at *
      go_enter Try.func34, Try.ntmps34
      go_wp2_with (first | (go_at_call 24; with_reducible refine (HS.out _).mono ?_; rintro e w1 ⟨rfl, rfl⟩))
      exact HF.out
def lvT (z : Int) (d : List Tx) (p : Tx) : Bool := decide (dpw z (d ++ [p]) < 0)
def lvJ (w : World) (cb : Nat) (z : Int) (d : List Tx) (V : World) : Prop := Fr (fun k => k = cb) w V ∧ V.cell? ⟨cb, 0, none⟩ = some (.int .i64 (dpw z d)) ∧ V.frozen? ⟨cb, 0, none⟩ = false
theorem frozen_nw {w w' : World} (h : Nw w w') {p : Addr} (hp : p.block < w.heap.size) (hf : w.frozen? p = false) : w'.frozen? p = false := by
  have := h.block p.block hp (fun h => h)
  rw [← hf]
  unfold World.frozen?
  rw [this]
theorem lv_so (w : World) (cb BB : Nat) (z : Int) : So 34 (.pointer (some ⟨cb, 0, none⟩)) BB (lvT z) (lvJ w cb z) where
  eg := enters_of Try.func34 (by kernel_rfl) rfl
  nw := fun d V V' h hN => ⟨h.1.trans hN.any, hN.cell h.2.1, frozen_nw hN (World.block_lt_of_cell? _ _ h.2.1) h.2.2⟩
  call := fun d p V _ h => by
    refine (leaves1_any cb p (dpw z d) V h.2.1 h.2.2).mono ?_
    rintro e w' ⟨rfl, h1, h2, h3⟩
    refine ⟨?_, ?_⟩
    · unfold lvT; rw [dpw_snoc]
    · show lvJ _ _ _ _ _
      refine ⟨h.1.trans h1, ?_, h3⟩
      rw [dpw_snoc]; exact h2
theorem lv_pieces (z : Int) (d : List Tx) (D : Nat) (hz : dpw z d = (D : Int)) (ps : List Tx) (hb : D + ps.length < 9000000000000000000) : spB (lvT z) d ps = lvP D ps := by
  induction ps generalizing d D with
  | nil => rfl
  | cons p r ih =>
    rw [List.length_cons] at hb
    have hT : lvT z d p = decide (dst (D : Int) p < 0) := by unfold lvT; rw [dpw_snoc, hz]
    have hn : dpw z (d ++ [p]) = dst (D : Int) p := by rw [dpw_snoc, hz]
    rw [spB, hT, lvP]
    by_cases hs : stays p = true
    · have e : dst (D : Int) p = (D : Int) := by unfold dst; rw [if_pos hs]
      rw [e] at hn ⊢
      rw [if_neg (by simp), if_pos hs]
      exact ih _ D hn (by omega)
    · rw [if_neg hs]
      by_cases hu : p = [46, 46]
      · have e : dst (D : Int) p = (D : Int) - 1 := by unfold dst; rw [if_neg hs, if_pos hu, IntKind.wrap_i64]; omega
        rw [e] at hn ⊢
        rw [if_pos hu]
        by_cases h0 : D = 0
        · rw [if_pos h0, if_pos (by subst h0; decide)]
        · rw [if_neg h0, if_neg (by simp; omega)]
          exact ih _ (D - 1) (by rw [hn]; omega) (by omega)
      · have e : dst (D : Int) p = (D : Int) + 1 := by unfold dst; rw [if_neg hs, if_neg hu, IntKind.wrap_i64]; omega
        rw [e] at hn ⊢
        rw [if_neg hu, if_neg (by simp; omega)]
        exact ih _ (D + 1) (by rw [hn]; omega) (by omega)
set_option maxHeartbeats 4000000 in
set_option maxRecDepth 100000 in
theorem pleaves_any (w : World) (a : Option Addr) (n c : Nat) (l : Tx) (hn : n ≤ 140737488351232) (hs : l.length ≤ 140737488351232) :
    Calls Try.prog 29 #[.slice a n c, .string (mk l)] w fun e w' => e = .returned (.bool (lvF n l)) ∧ Nw w w' := by
  obtain ⟨P, hP⟩ : ∃ P : Ending → World → Prop, P = fun e w' => e = .returned (.bool (lvF n l)) ∧ Nw w w' := ⟨_, rfl⟩
  rw [← hP]
  have HH := tHid (fun V => hp_any l V hs)
  have hN1 : Nw w (w.alloc (.cells #[.int .i64 n] 3)) := (Fr.refl _ _).alloc _
  by_cases h0 : l.head? = some 47
  · have HF : Hid (P (.returned (.bool true)) (w.alloc (.cells #[.int .i64 n] 3))) := by
      show P _ _
      rw [hP]
      refine ⟨?_, hN1⟩
      unfold lvF; rw [decide_eq_true h0, Bool.true_or]
    rw [decide_eq_true h0] at HH
    clear hP h0 hN1
    generalize mk l = s at *
    go_enter Try.func29, Try.ntmps29
    go_wp2_with (first | (go_at_call 26; with_reducible refine (HH.out _).mono ?_; rintro e w1 ⟨rfl, rfl⟩))
    exact HF.out
  · rw [decide_eq_false h0] at HH
    have hcell : (w.alloc (.cells #[.int .i64 n] 3)).cell? ⟨w.heap.size, 0, none⟩ = some (.int .i64 (n : Int)) ∧ (w.alloc (.cells #[.int .i64 n] 3)).frozen? ⟨w.heap.size, 0, none⟩ = false := by
      have hh : (w.alloc (.cells #[.int .i64 n] 3)).heap[w.heap.size]? = some (.cells #[.int .i64 n] 3) := by
        show (w.heap.push _)[w.heap.size]? = _
        simp
      exact cell_of_row hh 0 _ rfl
    have hJ0 : lvJ (w.alloc (.cells #[.int .i64 n] 3)) w.heap.size n [] (w.alloc (.cells #[.int .i64 n] 3)) := ⟨Fr.refl _ _, hcell.1, hcell.2⟩
    have HC : Hid (Calls Try.prog 22 #[.string (mk l), .func (.func 34) #[] #[.pointer (some ⟨w.heap.size, 0, none⟩)]] (w.alloc (.cells #[.int .i64 n] 3)) fun e w' => e = .returned (.bool (lvF n l)) ∧ Hid (Nw w w')) := by
      show Calls _ _ _ _ _
      refine (somePiece_any _ _ _ _ _ (lv_so _ w.heap.size _ n) l (Nat.le_refl _) hs _ hJ0).mono ?_
      rintro e w' ⟨rfl, hJ⟩
      refine ⟨?_, ?_⟩
      · have hpl := pcs_len l
        rw [lv_pieces n [] n rfl (pcs l) (by omega)]
        unfold lvF
        rw [decide_eq_false h0, Bool.false_or]
      · exact Fr.then hN1 hJ.1 (fun i hi => .inr (by omega))
    have HF : Hid (∀ V, Nw w V → P (.returned (.bool (lvF n l))) V) := fun V hV => by rw [hP]; exact ⟨rfl, hV⟩
    clear hP h0 hN1 hcell hJ0
    generalize lvF n l = B at *
    generalize mk l = s at *
    go_enter Try.func29, Try.ntmps29
    go_wp2_with (first
      | (go_at_call 26; with_reducible refine (HH.out _).mono ?_; rintro e w1 ⟨rfl, rfl⟩)
      | (go_at_call 22; with_reducible refine HC.out.mono ?_; rintro e w2 ⟨rfl, H2⟩))
    exact HF.out _ H2.out
end Go.Proofs.Ytoplhkpbicgceaa

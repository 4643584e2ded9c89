import Derived.Test.YtincbbnppcpfpaaDoorTdb
import Derived.Test.YtincbbnppcpfpaaDoorTck
namespace Go.Proofs.YtincbbnppcpfpaaDoor
open Go.RowKit
set_option linter.unusedVariables false
variable {pb rb db most told er tk : Nat} {B S : Nat → Prop} {x z : List By} {sv kv : Value} {og og2 : Option Nat} {va : Value} {w : World}
theorem mine_og2 {K : Nat → Prop} {v : Value} {l : List By} {w : World} (h : Mine K v l w) : ∃ og, Og og v l w ∧ ∀ g, og = some g → ¬ K g := by
  rcases h with ⟨h1, h2⟩ | ⟨g, h1, h2⟩
  · exact ⟨none, ⟨h1, h2⟩, fun g h => by cases h⟩
  · exact ⟨some g, h2, fun g' h => by injection h with h; subst h; exact h1⟩
/-! ### One contract for each Feed -/
theorem why0 : whyOf most x = 0 ↔ (rf most x).2.2 = 4 ∨ (rf most x).2.2 = 0 := by
  unfold whyOf
  by_cases h : (rf most x).2.2 = 4
  · rw [if_pos h]; exact ⟨fun _ => .inl h, fun _ => rfl⟩
  · rw [if_neg h]; exact ⟨fun e => .inr e, fun e => by rcases e with e | e; exact absurd e h; exact e⟩
/-- What was taken behind a piece, and what the piece tells. -/
noncomputable def nx (most : Nat) (x z : List By) : List By := if whyOf most x = 0 then x ++ z else x
noncomputable def tq (most : Nat) (x z : List By) : List By := if whyOf most x = 0 then toldOf most x z else []
theorem nx_len : (nx most x z).length ≤ x.length + z.length := by
  unfold nx
  split
  · rw [List.length_append]; omega
  · omega
theorem tq_len : (tq most x z).length ≤ most := by
  unfold tq
  split
  · unfold toldOf
    rw [List.length_drop]
    have := rf_out most (x ++ z)
    omega
  · simp
def KFq (rb : Nat) (B : Nat → Prop) (most : Nat) (x z : List By) (w : World) (e : Ending) (w' : World) : Prop :=
  ∃ a c ogt sv' kv' og' B', e = .returned (.tuple #[.slice a (tq most x z).length c, .int .i64 (whyOf most (nx most x z) : Nat)]) ∧ Og ogt (.slice a (tq most x z).length c) (tq most x z) w' ∧ (∀ g, ogt = some g → ¬ B' g ∧ g < w'.heap.size ∧ (B g ∨ w.heap.size ≤ g)) ∧ RdI rb B' most (nx most x z) (nx most x z).length sv' kv' og' w' ∧ (∀ k, B' k → B k ∨ w.heap.size ≤ k) ∧ Fr B w w'
def MFq (db : Nat) (og2 : Option Nat) (most : Nat) (x z : List By) (w : World) (e : Ending) (w' : World) : Prop :=
  ∃ a c ogo og' va' told', e = .returned (.tuple #[.slice a (tq most x z).length c, .int .i64 (whyOf most (nx most x z) : Nat)]) ∧ Og ogo (.slice a (tq most x z).length c) (tq most x z) w' ∧ (∀ g, ogo = some g → w.heap.size ≤ g) ∧ DrI db og' va' most told' (whyOf most (nx most x z)) (nx most x z) w' ∧ (∀ g, og' = some g → (og2 = some g ∨ w.heap.size ≤ g) ∧ ogo ≠ some g) ∧ Fr (fun k => k = db) w w'
set_option maxHeartbeats 16000000 in
set_option maxRecDepth 100000 in
theorem kfeed_dead2 (h : RdI rb B most x tk sv kv og w) (za : Option Addr) (Z zc : Nat) (h0 : (rf most x).2.2 ≠ 0) (h4 : (rf most x).2.2 ≠ 4) : Calls Tryd.prog 29 #[.pointer (some ⟨rb, 0, none⟩), .slice za Z zc] w fun e w' => e = .returned (.tuple #[.slice none 0 0, .int .i64 ((rf most x).2.2 : Nat)]) ∧ Nw w w' := by
  obtain ⟨P, hP⟩ : ∃ P : Ending → World → Prop, P = fun e w' => e = .returned (.tuple #[.slice none 0 0, .int .i64 ((rf most x).2.2 : Nat)]) ∧ Nw w w' := ⟨_, rfl⟩
  rw [← hP]
  have HD : Hid (Calls Tryd.prog 20 #[.pointer (some ⟨rb, 0, none⟩)] w fun e w' => e = .returned (.bool (decide ((rf most x).2.2 = 0))) ∧ w = w') := kdone_any h
  rw [decide_eq_false h0] at HD
  have c3 := (row_cell h.row 3 _ rfl).1
  have HF : Hid (∀ V, Nw w V → P (.returned (.tuple #[.slice none 0 0, .int .i64 ((rf most x).2.2 : Nat)])) V) := fun V hV => by rw [hP]; exact ⟨rfl, hV⟩
  clear hP h
  generalize (rf most x).2.2 = y at *
  have hz4 : ((y : Int) == 4) = false := by simp only [beq_eq_false_iff_ne, ne_eq]; omega
  go_enter Tryd.func29, Tryd.ntmps29
  go_wp2_with (first | (go_at_call 20; (with_reducible refine HD.out.mono ?_); rintro e w1 ⟨rfl, rfl⟩))
  go_quiet (fail)
  all_goals go_wp2_with fail
  all_goals (first | exact HF.out _ (Fr.refl _ _) | exact HF.out _ (Fr.refl _ _).drew | exact HF.out _ ((Fr.refl _ _).drewN _))
theorem kfeed_q (h : RdI rb B most x x.length sv kv og w) (vz : Value) (hz : Old w vz z) (hbl : x.length + z.length ≤ 140737488351232) (hT : Tab w) (hzr : ∀ g, SlB g vz z w → ¬ B g) :
    Calls Tryd.prog 29 #[.pointer (some ⟨rb, 0, none⟩), vz] w (KFq rb B most x z w) := by
  by_cases h0 : whyOf most x = 0
  · have e1 : nx most x z = x ++ z := by unfold nx; rw [if_pos h0]
    have e2 : tq most x z = toldOf most x z := by unfold tq; rw [if_pos h0]
    unfold KFq
    rw [e1, e2]
    refine (kfeed_any h vz hz hbl hT hzr).mono ?_
    rintro e w' ⟨a, c, tk', sv', kv', og', B', rfl, ⟨ogt, r2, r2b⟩, r3, r4, r5, r6, r7⟩
    rw [if_pos (why0.1 h0), ← List.length_append] at r6
    subst r6
    exact ⟨a, c, ogt, sv', kv', og', B', rfl, r2, r2b, r3, r4, r5⟩
  · have h4 : (rf most x).2.2 ≠ 4 := fun e => h0 (why0.2 (.inl e))
    have h1 : (rf most x).2.2 ≠ 0 := fun e => h0 (why0.2 (.inr e))
    have e1 : nx most x z = x := by unfold nx; rw [if_neg h0]
    have e2 : tq most x z = [] := by unfold tq; rw [if_neg h0]
    have e3 : whyOf most x = (rf most x).2.2 := by unfold whyOf; rw [if_neg h4]
    unfold KFq
    rw [e1, e2, e3]
    obtain ⟨za, zc, rfl, _, _⟩ := hz.form
    refine (kfeed_dead2 h za _ zc h1 h4).mono ?_
    rintro e w' ⟨rfl, hN⟩
    exact ⟨none, 0, none, sv, kv, og, B, rfl, ⟨rfl, rfl⟩, fun g hg => (by cases hg), h.keep hN (fun _ _ e => e) (fun _ _ e => e), fun k hk => .inl hk, hN.any⟩
theorem mfeed_q (h : DrI db og2 va most told (whyOf most x) x w) (vz : Value) (hz : Old w vz z) (hxz : x.length + z.length ≤ 1099511627776) : Calls Tryd.prog 30 #[.pointer (some ⟨db, 0, none⟩), vz] w (MFq db og2 most x z w) := by
  by_cases h0 : whyOf most x = 0
  · have e1 : nx most x z = x ++ z := by unfold nx; rw [if_pos h0]
    have e2 : tq most x z = toldOf most x z := by unfold tq; rw [if_pos h0]
    unfold MFq
    rw [e1, e2]
    rw [h0] at h
    refine (mfeed_ok h vz hz hxz).mono ?_
    rintro e w' ⟨a, c, ogo, og', va', told', rfl, r2, r3, r4, r5, r6⟩
    exact ⟨a, c, ogo, og', va', told', rfl, r2, r3, r4, fun g hg => ⟨.inr (r5 g hg).1, (r5 g hg).2⟩, r6⟩
  · have e1 : nx most x z = x := by unfold nx; rw [if_neg h0]
    have e2 : tq most x z = [] := by unfold tq; rw [if_neg h0]
    unfold MFq
    rw [e1, e2]
    obtain ⟨za, zc, rfl, _, _⟩ := hz.form
    refine (mfeed_err h h0 za _ zc).mono ?_
    rintro e w' ⟨rfl, hN⟩
    exact ⟨none, 0, none, og2, va, told, rfl, ⟨rfl, rfl⟩, fun g hg => (by cases hg), h.nw hN, fun g hg => ⟨.inl hg, fun e => by cases e⟩, hN.any⟩
/-! ### A pair -/
def PrI (pb : Nat) (S : Nat → Prop) (most : Nat) (x : List By) (w : World) : Prop := ∃ rb db B sv kv og og2 va told,
  w.heap[pb]? = some (.cells #[.pointer (some ⟨rb, 0, none⟩), .pointer (some ⟨db, 0, none⟩)] 36) ∧ RdI rb B most x x.length sv kv og w ∧ DrI db og2 va most told (whyOf most x) x w ∧
  (∀ k, B k → S k) ∧ S db ∧ S pb ∧ (∀ g, og2 = some g → S g ∧ ¬ B g ∧ g ≠ pb) ∧ ¬ B db ∧ ¬ B pb ∧ db ≠ pb ∧ (∀ k, S k → k < w.heap.size ∧ ¬ Kt w k ∧ k ≠ 0)
theorem PrI.keep {Y : Nat → Prop} {w' : World} (h : PrI pb S most x w) (f : Fr Y w w') (h1 : ∀ k, S k → ¬ Y k) (h2 : ∀ k, Kt w k → ¬ Y k) : PrI pb S most x w' := by
  obtain ⟨rb, db, B, sv, kv, og, og2, va, told, q1, q2, q3, q4, q5, q6, q7, q8, q9, q10, q11⟩ := h
  refine ⟨rb, db, B, sv, kv, og, og2, va, told, row_kept q1 f (h1 pb q6), q2.keep f (fun k hk => h1 k (q4 k hk)) h2, q3.keep f (h1 db q5) (fun g hg => h1 g (q7 g hg).1), q4, q5, q6, q7, q8, q9, q10, fun k hk => ?_⟩
  obtain ⟨r1, r2, r3⟩ := q11 k hk
  refine ⟨Nat.lt_of_lt_of_le r1 f.size, ?_, r3⟩
  rintro ⟨A, t, e, ht⟩
  rw [f.block k r1 (h1 k hk)] at e
  exact r2 ⟨A, t, e, ht⟩
theorem PrI.nw {w' : World} (h : PrI pb S most x w) (f : Nw w w') : PrI pb S most x w' := h.keep f (fun _ _ e => e) (fun _ _ e => e)
theorem lft_n : lft x (pos most x) = ((rf most x).2.1.n + 7) / 8 := by
  have hn := rf_n most x
  unfold lft pos
  congr 2; omega
theorem rest_eq : restOf most x = if (rf most x).2.2 = 0 then x.drop (x.length - ((rf most x).2.1.n + 7) / 8) else [] := by
  unfold restOf
  split
  · rename_i h
    unfold kl kpt
    rw [if_pos (.inr h), lft_n]
  · rfl
theorem size_eq : sizeOf' most x x.length = if (rf most x).2.2 = 0 then x.length - ((rf most x).2.1.n + 7) / 8 else x.length := by
  unfold sizeOf'
  split
  · rename_i h
    rw [kl_len (.inr h), lft_n]
  · rfl
set_option maxHeartbeats 32000000 in
set_option maxRecDepth 100000 in
theorem tells_any (h : PrI pb S most x w) (hx : x.length ≤ 1099511627776) : Calls Tryd.prog 15 #[.pointer (some ⟨pb, 0, none⟩)] w fun e w' => e = .returned (.bool true) ∧ Nw w w' := by
  obtain ⟨P, hP⟩ : ∃ P : Ending → World → Prop, P = fun e w' => e = .returned (.bool true) ∧ Nw w w' := ⟨_, rfl⟩
  rw [← hP]
  have HF : Hid (∀ V, Nw w V → P (.returned (.bool true)) V) := fun V hV => by rw [hP]; exact ⟨rfl, hV⟩
  clear hP
  obtain ⟨rb, db, B, sv, kv, og, og2, va, told, q1, q2, q3, q4, q5, q6, q7, q8, q9, q10, q11⟩ := h
  have HC : ∀ V, Nw w V → V.cell? ⟨pb, 0, none⟩ = some (.pointer (some ⟨rb, 0, none⟩)) ∧ V.cell? ⟨pb, 1, none⟩ = some (.pointer (some ⟨db, 0, none⟩)) := fun V hV => ⟨(row_cell (hV.heap q1) 0 _ rfl).1, (row_cell (hV.heap q1) 1 _ rfl).1⟩
  have HK : ∀ V, Nw w V → RdI rb B most x x.length sv kv og V := fun V hV => q2.keep hV (fun _ _ e => e) (fun _ _ e => e)
  have HDr : ∀ V, Nw w V → DrI db og2 va most told (whyOf most x) x V := fun V hV => q3.nw hV
  obtain ⟨D, hD⟩ : ∃ D, D = decide ((rf most x).2.2 = 0) := ⟨_, rfl⟩
  obtain ⟨Z, hZ⟩ : ∃ Z, Z = sizeOf' most x x.length := ⟨_, rfl⟩
  obtain ⟨R, hR⟩ : ∃ R, R = restOf most x := ⟨_, rfl⟩
  have HD1 : Hid (∀ V, Nw w V → Calls Tryd.prog 20 #[.pointer (some ⟨rb, 0, none⟩)] V fun e w' => e = .returned (.bool D) ∧ V = w') := fun V hV => by rw [hD]; exact kdone_any (HK V hV)
  have HD2 : Hid (∀ V, Nw w V → Calls Tryd.prog 26 #[.pointer (some ⟨db, 0, none⟩)] V fun e w' => e = .returned (.bool D) ∧ w'.cell? ⟨pb, 0, none⟩ = some (.pointer (some ⟨rb, 0, none⟩)) ∧ w'.cell? ⟨pb, 1, none⟩ = some (.pointer (some ⟨db, 0, none⟩)) ∧ Hid (Nw w w')) := fun V hV => by
    refine (mdone_any (HDr V hV)).mono ?_
    rintro e w' ⟨rfl, hN⟩
    exact ⟨by rw [hD], (HC w' (hV.trans hN)).1, (HC w' (hV.trans hN)).2, hV.trans hN⟩
  have HZ1 : Hid (∀ V, Nw w V → Calls Tryd.prog 22 #[.pointer (some ⟨rb, 0, none⟩)] V fun e w' => e = .returned (.int .i64 (Z : Nat)) ∧ w'.cell? ⟨pb, 0, none⟩ = some (.pointer (some ⟨rb, 0, none⟩)) ∧ w'.cell? ⟨pb, 1, none⟩ = some (.pointer (some ⟨db, 0, none⟩)) ∧ Hid (Nw w w')) := fun V hV => by
    refine (ksize_any (HK V hV) (by omega)).mono ?_
    rintro e w' ⟨rfl, hN⟩
    exact ⟨by rw [hZ], (HC w' (hV.trans hN)).1, (HC w' (hV.trans hN)).2, hV.trans hN⟩
  have HZ2 : Hid (∀ V, Nw w V → Calls Tryd.prog 27 #[.pointer (some ⟨db, 0, none⟩)] V fun e w' => e = .returned (.int .i64 (Z : Nat)) ∧ w'.cell? ⟨pb, 0, none⟩ = some (.pointer (some ⟨rb, 0, none⟩)) ∧ w'.cell? ⟨pb, 1, none⟩ = some (.pointer (some ⟨db, 0, none⟩)) ∧ Hid (Nw w w')) := fun V hV => by
    refine (msize_any (HDr V hV)).mono ?_
    rintro e w' ⟨rfl, hN⟩
    exact ⟨by rw [hZ, size_eq], (HC w' (hV.trans hN)).1, (HC w' (hV.trans hN)).2, hV.trans hN⟩
  have HR1 : Hid (∀ V, Nw w V → Calls Tryd.prog 21 #[.pointer (some ⟨rb, 0, none⟩)] V fun e w1 => ∃ a1 c1, e = .returned (.slice a1 R.length c1) ∧ w1.cell? ⟨pb, 0, none⟩ = some (.pointer (some ⟨rb, 0, none⟩)) ∧ w1.cell? ⟨pb, 1, none⟩ = some (.pointer (some ⟨db, 0, none⟩)) ∧ Hid (∀ V1, Nw w1 V1 → Calls Tryd.prog 28 #[.pointer (some ⟨db, 0, none⟩)] V1 fun e w2 => ∃ a2 c2, e = .returned (.slice a2 R.length c2) ∧ w2.cell? ⟨pb, 0, none⟩ = some (.pointer (some ⟨rb, 0, none⟩)) ∧ w2.cell? ⟨pb, 1, none⟩ = some (.pointer (some ⟨db, 0, none⟩)) ∧ Hid (∀ V2, Nw w2 V2 → Calls Tryd.prog 13 #[.slice a1 R.length c1, .slice a2 R.length c2] V2 fun e w3 => e = .returned (.bool true) ∧ w3.cell? ⟨pb, 0, none⟩ = some (.pointer (some ⟨rb, 0, none⟩)) ∧ w3.cell? ⟨pb, 1, none⟩ = some (.pointer (some ⟨db, 0, none⟩)) ∧ Hid (Nw w w3)))) := fun V hV => by
    refine (krest_any (HK V hV) (by omega)).mono ?_
    rintro e w1 ⟨r, rfl, hM, hN1⟩
    rw [← hR] at hM
    obtain ⟨ogp, hO, hg⟩ := mine_og2 hM
    obtain ⟨a1, c1, rfl, _, _⟩ := hO.form
    have hw1 := hV.trans hN1
    have hsV := hV.size
    refine ⟨a1, c1, rfl, (HC w1 hw1).1, (HC w1 hw1).2, fun V1 hV1 => ?_⟩
    refine (mrest_any (HDr V1 (hw1.trans hV1))).mono ?_
    rintro e w2 ⟨v2, rfl, hS2, hN2⟩
    rw [← rest_eq, ← hR] at hS2
    obtain ⟨a2, c2, rfl, _, _⟩ := hS2.form
    have hw2 := (hw1.trans hV1).trans hN2
    refine ⟨a2, c2, rfl, (HC w2 hw2).1, (HC w2 hw2).2, fun V2 hV2 => ?_⟩
    have hRl : R.length ≤ 1099511627776 := by
      rw [hR, rest_eq]
      split
      · rw [List.length_drop]; omega
      · simp
    have holt := fun g (hh : og2 = some g) => (HDr w (Fr.refl _ _)).ho.lt g hh
    refine (lwiped_any V2 ogp _ _ R (hO.nw ((hV1.trans hN2).trans hV2)) ((hS2.nw hV2).mono (fun g hh e => ?_)) (by omega)).mono ?_
    · have := hg g hh
      have := holt g e
      omega
    · rintro e w3 ⟨rfl, f3⟩
      have hw3 : Nw w w3 := Fr.then (hw2.trans hV2) f3 (fun k hk => .inr (by have := hg k hk; omega))
      exact ⟨rfl, (HC w3 hw3).1, (HC w3 hw3).2, hw3⟩
  obtain ⟨c0, c1⟩ := HC w (Fr.refl _ _)
  have t0 : w.drew.cell? ⟨pb, 0, none⟩ = some (.pointer (some ⟨rb, 0, none⟩)) := c0
  have t1 : w.drew.cell? ⟨pb, 1, none⟩ = some (.pointer (some ⟨db, 0, none⟩)) := c1
  clear HC HK HDr hD hZ hR q1 q2 q3 q4 q5 q6 q7 q8 q9 q10 q11
  generalize R.length = RL at *
  cases D
  all_goals (
    go_enter Tryd.func15, Tryd.ntmps15
    go_wp2_with fail
    go_region_held3 (fun W => W.cell? ⟨pb, 0, none⟩ = some (.pointer (some ⟨rb, 0, none⟩)) ∧ W.cell? ⟨pb, 1, none⟩ = some (.pointer (some ⟨db, 0, none⟩)))
      (first | assumption | (refine ⟨?_, ?_⟩ <;> assumption))
      (first
        | (go_at_call 20; with_reducible refine (HD1.out _ ?_).mono ?_; (first | exact KK.out | exact (Fr.refl _ _).drew | exact Fr.refl _ _); rintro e w' ⟨rfl, rfl⟩)
        | (go_at_call 26; with_reducible refine (HD2.out _ ?_).mono ?_; (first | exact KK.out | exact (Fr.refl _ _).drew | exact Fr.refl _ _); rintro e w1 ⟨rfl, u0, u1, KK⟩)
        | (go_at_call 22; with_reducible refine (HZ1.out _ ?_).mono ?_; (first | exact KK.out | exact (Fr.refl _ _).drew | exact Fr.refl _ _); rintro e w1 ⟨rfl, u0, u1, KK⟩)
        | (go_at_call 27; with_reducible refine (HZ2.out _ ?_).mono ?_; (first | exact KK.out | exact (Fr.refl _ _).drew | exact Fr.refl _ _); rintro e w1 ⟨rfl, u0, u1, KK⟩)
        | (go_at_call 21; with_reducible refine (HR1.out _ ?_).mono ?_; (first | exact KK.out | exact (Fr.refl _ _).drew | exact Fr.refl _ _); rintro e w1 ⟨a1, c1, rfl, u0, u1, HR2⟩)
        | (go_at_call 28; with_reducible refine (HR2.out _ ?_).mono ?_; (first | exact Fr.refl _ _ | exact (Fr.refl _ _).drew); rintro e w2 ⟨a2, c2, rfl, u0, u1, HR3⟩)
        | (go_at_call 13; with_reducible refine (HR3.out _ ?_).mono ?_; (first | exact Fr.refl _ _ | exact (Fr.refl _ _).drew); rintro e w3 ⟨rfl, u0, u1, KK⟩))
    all_goals go_wp2_with fail
    all_goals exact HF.out _ KK.out)
end Go.Proofs.YtincbbnppcpfpaaDoor

import Derived.Test.YtincbbnppcpfpaaDoorTcj
import Derived.Test.YtincbbnppcpfpaaDoorTbj
namespace Go.Proofs.YtincbbnppcpfpaaDoor
open Go.RowKit
set_option linter.unusedVariables false
variable {db most told er : Nat} {x : List By} {og : Option Nat} {va : Value} {w : World}
theorem infoErr : ∃ i, Tryd.prog.info? 24 = some i ∧ i.size = 1 := by
  have h : ((Tryd.prog.info? 24).map (·.size)) = some 1 := by kernel_rfl
  cases hi : Tryd.prog.info? 24 with
  | none => rw [hi] at h; cases h
  | some i => rw [hi] at h; exact ⟨i, rfl, by simpa using h⟩
theorem infoInt : ∃ i, Tryd.prog.info? 3 = some i ∧ i.size = 1 := by
  have h : ((Tryd.prog.info? 3).map (·.size)) = some 1 := by kernel_rfl
  cases hi : Tryd.prog.info? 3 with
  | none => rw [hi] at h; cases h
  | some i => rw [hi] at h; exact ⟨i, rfl, by simpa using h⟩
theorem fld2 (a1 : Option Addr) (n1 c1 : Nat) (p y : Int) (W : World) : (Instr.field 64 (.agg #[.slice a1 n1 c1, .int .i64 p, .int .i64 y]) 2).run Tryd.prog W = .ok (.int .i64 y) W := by
  obtain ⟨i, hi, hs⟩ := infoErr
  simp [Instr.field, run_underlying Tryd.underlying64, asAgg, part, sizeOf, typeInfo, hi, hs]
theorem fld1 (a1 : Option Addr) (n1 c1 : Nat) (p y : Int) (W : World) : (Instr.field 64 (.agg #[.slice a1 n1 c1, .int .i64 p, .int .i64 y]) 1).run Tryd.prog W = .ok (.int .i64 p) W := by
  obtain ⟨i, hi, hs⟩ := infoInt
  simp [Instr.field, run_underlying Tryd.underlying64, asAgg, part, sizeOf, typeInfo, hi, hs]
/-- The document's Reader in memory: x is all that it took. -/
structure DrI (db : Nat) (og : Option Nat) (va : Value) (most told er : Nat) (x : List By) (w : World) : Prop where
  row : w.heap[db]? = some (.cells #[.int .i64 most, .int .i64 told, va, .int .i64 er] 67)
  ho : Og og va x w
  n1 : og ≠ some db
  hm : most ≤ 4194304
  hx : x.length ≤ 1099511627776
  tl : told = (rf most x).1.out.length
  ey : er = whyOf most x
theorem DrI.keep {X : Nat → Prop} {w' : World} (h : DrI db og va most told er x w) (f : Fr X w w') (x1 : ¬ X db) (x2 : ∀ g, og = some g → ¬ X g) : DrI db og va most told er x w' :=
  ⟨row_kept h.row f x1, h.ho.kept f x2, h.n1, h.hm, h.hx, h.tl, h.ey⟩
theorem DrI.nw {w' : World} (h : DrI db og va most told er x w) (f : Nw w w') : DrI db og va most told er x w' := h.keep f (fun h => h) (fun _ _ h => h)
theorem DrI.c0 (h : DrI db og va most told er x w) : w.cell? ⟨db, 0, none⟩ = some (.int .i64 most) := (row_cell h.row 0 _ rfl).1
theorem DrI.c1 (h : DrI db og va most told er x w) : w.cell? ⟨db, 1, none⟩ = some (.int .i64 told) := (row_cell h.row 1 _ rfl).1
theorem DrI.c2 (h : DrI db og va most told er x w) : w.cell? ⟨db, 2, none⟩ = some va := (row_cell h.row 2 _ rfl).1
theorem DrI.c3 (h : DrI db og va most told er x w) : w.cell? ⟨db, 3, none⟩ = some (.int .i64 er) := (row_cell h.row 3 _ rfl).1
set_option maxHeartbeats 16000000 in
set_option maxRecDepth 100000 in
theorem mdone_any (h : DrI db og va most told er x w) : Calls Tryd.prog 26 #[.pointer (some ⟨db, 0, none⟩)] w fun e w' => e = .returned (.bool (decide ((rf most x).2.2 = 0))) ∧ Nw w w' := by
  obtain ⟨P, hP⟩ : ∃ P : Ending → World → Prop, P = fun e w' => e = .returned (.bool (decide ((rf most x).2.2 = 0))) ∧ Nw w w' := ⟨_, rfl⟩
  rw [← hP]
  obtain ⟨y, hy⟩ : ∃ y, y = (rf most x).2.2 := ⟨_, rfl⟩
  have hey := h.ey
  unfold whyOf at hey
  rw [← hy] at hP hey
  have c0 := h.c0
  have c2 := h.c2
  have c3 := h.c3
  obtain ⟨a, c, rfl, _, _⟩ := h.ho.form
  by_cases he : er = 0
  · have HR : Hid (∀ V, Nw w V → Calls Tryd.prog 25 #[.slice a x.length c, .int .i64 most] V fun e w1 => ∃ a1 n1 c1 p, e = .returned (.agg #[.slice a1 n1 c1, .int .i64 (p : Nat), .int .i64 (y : Nat)]) ∧ w1.cell? ⟨db, 0, none⟩ = some (.int .i64 most) ∧ w1.cell? ⟨db, 2, none⟩ = some (.slice a x.length c) ∧ w1.cell? ⟨db, 3, none⟩ = some (.int .i64 0) ∧ Hid (Nw w w1)) := fun V hV => by
      refine (gread_any V _ x most ((h.nw hV).ho.sl.mono (fun _ hh => hh.elim)) h.hx h.hm).mono ?_
      rintro e w1 ⟨vo, og1, p, er1, rfl, H1⟩
      obtain ⟨q1, q2, _, q4, _⟩ := H1.out
      obtain ⟨a1, c1, rfl, _⟩ := q2.form
      have hh := (h.nw hV).nw q4
      refine ⟨a1, _, c1, p, by rw [q1, ← hy], hh.c0, hh.c2, ?_, hV.trans q4⟩
      rw [hh.c3, he]; rfl
    have HF : Hid (∀ V, Nw w V → P (.returned (.bool (decide (y = 0)))) V) := fun V hV => by rw [hP]; exact ⟨rfl, hV⟩
    subst he
    have t0 : w.drew.cell? ⟨db, 0, none⟩ = some (.int .i64 most) := c0
    have t2 : w.drew.cell? ⟨db, 2, none⟩ = some (.slice a x.length c) := c2
    have t3 : w.drew.cell? ⟨db, 3, none⟩ = some (.int .i64 0) := c3
    have hf2 := fld2
    clear hP h hey hy
    generalize x.length = L at *
    by_cases hy0 : y = 0
    · rw [decide_eq_true hy0] at HF
      subst hy0
      go_enter Tryd.func26, Tryd.ntmps26
      go_wp2_with fail
      go_region_held3 (fun W => W.cell? ⟨db, 0, none⟩ = some (.int .i64 most) ∧ W.cell? ⟨db, 2, none⟩ = some (.slice a L c) ∧ W.cell? ⟨db, 3, none⟩ = some (.int .i64 0))
        (first | assumption | (refine ⟨?_, ?_, ?_⟩ <;> assumption))
        (first | (go_at_call 25; with_reducible refine (HR.out _ ?_).mono ?_; (first | exact (Fr.refl _ _).drew | exact Fr.refl _ _); rintro e w1 ⟨a1, n1, c1, p, rfl, u0, u2, u3, K1⟩))
      all_goals go_wp2_with fail
      all_goals exact HF.out _ K1.out
    · rw [decide_eq_false hy0] at HF
      have hyz := ne0' hy0
      clear hy0
      go_enter Tryd.func26, Tryd.ntmps26
      go_wp2_with fail
      go_region_held3 (fun W => W.cell? ⟨db, 0, none⟩ = some (.int .i64 most) ∧ W.cell? ⟨db, 2, none⟩ = some (.slice a L c) ∧ W.cell? ⟨db, 3, none⟩ = some (.int .i64 0))
        (first | assumption | (refine ⟨?_, ?_, ?_⟩ <;> assumption))
        (first | (go_at_call 25; with_reducible refine (HR.out _ ?_).mono ?_; (first | exact (Fr.refl _ _).drew | exact Fr.refl _ _); rintro e w1 ⟨a1, n1, c1, p, rfl, u0, u2, u3, K1⟩))
      all_goals go_wp2_with fail
      all_goals exact HF.out _ K1.out
  · have hy0 : y ≠ 0 := fun e => he (by rw [hey, e]; rfl)
    have HF : Hid (∀ V, Nw w V → P (.returned (.bool false)) V) := fun V hV => by rw [hP, decide_eq_false hy0]; exact ⟨rfl, hV⟩
    have hz := ne0' he
    have hz2 := ne0 he
    clear hP h hey hy hy0
    generalize x.length = L at *
    go_enter Tryd.func26, Tryd.ntmps26
    go_wp2_with fail
    go_quiet (fail)
    go_wp2_with fail
    exact HF.out _ ((Fr.refl _ _).drewN _)
set_option maxHeartbeats 16000000 in
set_option maxRecDepth 100000 in
theorem msize_any (h : DrI db og va most told er x w) : Calls Tryd.prog 27 #[.pointer (some ⟨db, 0, none⟩)] w fun e w' => e = .returned (.int .i64 (if (rf most x).2.2 = 0 then x.length - ((rf most x).2.1.n + 7) / 8 else x.length : Nat)) ∧ Nw w w' := by
  obtain ⟨P, hP⟩ : ∃ P : Ending → World → Prop, P = fun e w' => e = .returned (.int .i64 (if (rf most x).2.2 = 0 then x.length - ((rf most x).2.1.n + 7) / 8 else x.length : Nat)) ∧ Nw w w' := ⟨_, rfl⟩
  rw [← hP]
  obtain ⟨a, c, rfl, _, _⟩ := h.ho.form
  by_cases h0 : (rf most x).2.2 = 0
  · obtain ⟨q, hq⟩ : ∃ q, q = x.length - ((rf most x).2.1.n + 7) / 8 := ⟨_, rfl⟩
    rw [if_pos h0, ← hq] at hP
    have HF : Hid (∀ V, Nw w V → P (.returned (.int .i64 q)) V) := fun V hV => by rw [hP]; exact ⟨rfl, hV⟩
    have HD : Hid (Calls Tryd.prog 26 #[.pointer (some ⟨db, 0, none⟩)] w fun e w1 => e = .returned (.bool true) ∧ w1.cell? ⟨db, 0, none⟩ = some (.int .i64 most) ∧ w1.cell? ⟨db, 2, none⟩ = some (.slice a x.length c) ∧ Hid (∀ V, Nw w1 V → Calls Tryd.prog 25 #[.slice a x.length c, .int .i64 most] V fun e w2 => ∃ a1 n1 c1 p p7 y, e = .returned (.agg #[.slice a1 n1 c1, .int .i64 (p : Nat), .int .i64 (y : Nat)]) ∧ w2.cell? ⟨db, 0, none⟩ = some (.int .i64 most) ∧ w2.cell? ⟨db, 2, none⟩ = some (.slice a x.length c) ∧ (p : Int) + 7 = (p7 : Nat) ∧ p7 ≤ 8796093022215 ∧ (p7 : Int).tdiv 8 = (q : Int) ∧ (p7 : Int) / 8 = (q : Int) ∧ IntKind.i64.wrap (p7 : Int) = (p7 : Int) ∧ Hid (Nw w w2))) := by
      show Calls _ _ _ _ _
      refine (mdone_any h).mono ?_
      rintro e w1 ⟨rfl, hN1⟩
      have h1 := h.nw hN1
      refine ⟨by rw [decide_eq_true h0], h1.c0, h1.c2, fun V hV => ?_⟩
      refine (gread_any V _ x most ((h1.nw hV).ho.sl.mono (fun _ hh => hh.elim)) h.hx h.hm).mono ?_
      rintro e w2 ⟨vo, og1, p, er1, rfl, H1⟩
      obtain ⟨q1, q2, _, q4, q5, q6⟩ := H1.out
      obtain ⟨a1, c1, rfl, _⟩ := q2.form
      have hh := (h1.nw hV).nw q4
      have hx := h.hx
      have hq7 : (p + 7) / 8 = q := by rw [hq]; exact q6 (by rw [q1]; exact h0)
      exact ⟨a1, _, c1, p, p + 7, er1, rfl, hh.c0, hh.c2, by omega, by omega, by rw [Int.tdiv_eq_ediv_of_nonneg (by omega)]; omega, by omega, by rw [IntKind.wrap_i64]; omega, (hN1.trans hV).trans q4⟩
    have hf1 := fld1
    have hql : q ≤ 1099511627776 := by have := h.hx; omega
    have hwq : IntKind.i64.wrap (q : Int) = (q : Int) := by rw [IntKind.wrap_i64]; omega
    clear hP h h0 hq
    generalize x.length = L at *
    go_enter Tryd.func27, Tryd.ntmps27
    go_upto_region 3 with (first | (go_at_call 26; with_reducible refine HD.out.mono ?_; rintro e w1 ⟨rfl, c0, c2, HR⟩))
    have t0 : w1.drew.cell? ⟨db, 0, none⟩ = some (.int .i64 most) := c0
    have t2 : w1.drew.cell? ⟨db, 2, none⟩ = some (.slice a L c) := c2
    clear HD
    go_region_held3 (fun W => W.cell? ⟨db, 0, none⟩ = some (.int .i64 most) ∧ W.cell? ⟨db, 2, none⟩ = some (.slice a L c))
      (first | assumption | (refine ⟨?_, ?_⟩ <;> assumption))
      (first | (go_at_call 25; with_reducible refine (HR.out _ ?_).mono ?_; (first | exact (Fr.refl _ _).drew | exact Fr.refl _ _); rintro e w2 ⟨a1, n1, c1, p, p7, y, rfl, u0, u2, u3, u4, u5, u6, u7, K1⟩))
    all_goals go_wp2_with fail
    all_goals exact HF.out _ K1.out
  · rw [if_neg h0] at hP
    have HF : Hid (∀ V, Nw w V → P (.returned (.int .i64 x.length)) V) := fun V hV => by rw [hP]; exact ⟨rfl, hV⟩
    have HD : Hid (Calls Tryd.prog 26 #[.pointer (some ⟨db, 0, none⟩)] w fun e w1 => e = .returned (.bool false) ∧ w1.cell? ⟨db, 2, none⟩ = some (.slice a x.length c) ∧ Hid (Nw w w1)) := by
      show Calls _ _ _ _ _
      refine (mdone_any h).mono ?_
      rintro e w1 ⟨rfl, hN1⟩
      exact ⟨by rw [decide_eq_false h0], (h.nw hN1).c2, hN1⟩
    clear hP h h0
    generalize x.length = L at *
    go_enter Tryd.func27, Tryd.ntmps27
    go_wp2_with (first | (go_at_call 26; with_reducible refine HD.out.mono ?_; rintro e w1 ⟨rfl, c2, K1⟩))
    exact HF.out _ K1.out
set_option maxHeartbeats 16000000 in
set_option maxRecDepth 100000 in
/-- Rest: what stands behind the stream. -/
theorem mrest_any (h : DrI db og va most told er x w) : Calls Tryd.prog 28 #[.pointer (some ⟨db, 0, none⟩)] w fun e w' => ∃ v, e = .returned v ∧ Sl (fun k => og ≠ some k) v (if (rf most x).2.2 = 0 then x.drop (x.length - ((rf most x).2.1.n + 7) / 8) else []) w' ∧ Nw w w' := by
  obtain ⟨P, hP⟩ : ∃ P : Ending → World → Prop, P = fun e w' => ∃ v, e = .returned v ∧ Sl (fun k => og ≠ some k) v (if (rf most x).2.2 = 0 then x.drop (x.length - ((rf most x).2.1.n + 7) / 8) else []) w' ∧ Nw w w' := ⟨_, rfl⟩
  rw [← hP]
  obtain ⟨a, c, rfl, hc1, hc2⟩ := h.ho.form
  by_cases h0 : (rf most x).2.2 = 0
  · obtain ⟨q, hq⟩ : ∃ q, q = x.length - ((rf most x).2.1.n + 7) / 8 := ⟨_, rfl⟩
    rw [if_pos h0, ← hq] at hP
    have hqx : q ≤ x.length := by omega
    have hs := msize_any h
    rw [if_pos h0, ← hq] at hs
    have HF : Hid (∀ V A c', Nw w V → ((∃ g o, a = some ⟨g, o, none⟩ ∧ A = some ⟨g, o + q, none⟩ ∧ c' = c - q) ∨ (c = q ∧ c' = 0)) → P (.returned (.slice A (x.length - q) c')) V) := fun V A c' hV hA => by
      rw [hP]
      refine ⟨_, rfl, ?_, hV⟩
      have hsl := (h.ho.nw hV).sl
      have hlen : (x.drop q).length = x.length - q := by rw [List.length_drop]
      rcases hA with ⟨g, o, rfl, rfl, rfl⟩ | ⟨hcq, rfl⟩
      · rcases hsl with ⟨a', e, rfl⟩ | ⟨g', hg', o', c2, e, e1, e2, e3⟩
        · injection e with e0 _ ec
          subst ec
          simp at hqx
          subst hqx
          exact .inl ⟨_, rfl, rfl⟩
        · injection e with e0 _ ec
          injection e0 with e0
          injection e0 with eg eo
          subst eg eo ec
          exact .inr ⟨g, hg', o + q, c - q, by rw [hlen], by rw [hlen]; omega, by omega, e3.drop q⟩
      · have e : x.drop q = [] := List.drop_eq_nil_of_le (by omega)
        rw [e]
        have e2 : x.length - q = 0 := by omega
        rw [e2]
        exact .inl ⟨_, rfl, rfl⟩
    have HD : Hid (Calls Tryd.prog 26 #[.pointer (some ⟨db, 0, none⟩)] w fun e w1 => e = .returned (.bool true) ∧ w1.cell? ⟨db, 2, none⟩ = some (.slice a x.length c) ∧ Hid (∀ V, Nw w1 V → Calls Tryd.prog 27 #[.pointer (some ⟨db, 0, none⟩)] V fun e w2 => e = .returned (.int .i64 q) ∧ w2.cell? ⟨db, 2, none⟩ = some (.slice a x.length c) ∧ Hid (Nw w w2))) := by
      show Calls _ _ _ _ _
      refine (mdone_any h).mono ?_
      rintro e w1 ⟨rfl, hN1⟩
      refine ⟨by rw [decide_eq_true h0], (h.nw hN1).c2, fun V hV => ?_⟩
      have hs1 := msize_any ((h.nw hN1).nw hV)
      rw [if_pos h0, ← hq] at hs1
      refine hs1.mono ?_
      rintro e w2 ⟨rfl, hN2⟩
      exact ⟨rfl, (((h.nw hN1).nw hV).nw hN2).c2, (hN1.trans hV).trans hN2⟩
    have hxl := h.hx
    have hform : a = none ∧ c = 0 ∨ ∃ g o, a = some ⟨g, o, none⟩ := by
      cases og with
      | none => obtain ⟨e, _⟩ := h.ho; injection e with e1 _ e3; exact .inl ⟨e1, e3⟩
      | some g =>
        have hO : Ow g (.slice a x.length c) x w := h.ho
        obtain ⟨xs, e, _⟩ := hO
        injection e with e1
        exact .inr ⟨g, 0, e1⟩
    have hq1 : (q : Int) ≤ (x.length : Int) := by omega
    have hq2 : (0 : Int) ≤ (q : Int) := by omega
    have hq3 : (x.length : Int) ≤ (c : Int) := by omega
    have hq4 : (q : Int) ≤ (c : Int) := by omega
    clear hP h h0 hq hs hqx
    generalize x.length = L at *
    go_enter Tryd.func28, Tryd.ntmps28
    go_upto_region 3 with (first | (go_at_call 26; with_reducible refine HD.out.mono ?_; rintro e w1 ⟨rfl, c2, HR⟩))
    have t2 : w1.drew.cell? ⟨db, 2, none⟩ = some (.slice a L c) := c2
    clear HD
    rcases hform with ⟨rfl, rfl⟩ | ⟨g, o, rfl⟩
    · obtain rfl : L = 0 := by omega
      obtain rfl : q = 0 := by omega
      go_region_held3 (fun W => W.cell? ⟨db, 2, none⟩ = some (.slice none 0 0))
        (first | assumption)
        (first | (go_at_call 27; with_reducible refine (HR.out _ ?_).mono ?_; (first | exact (Fr.refl _ _).drew | exact Fr.refl _ _); rintro e w2 ⟨rfl, u2, K1⟩))
      all_goals go_wp2_with fail
      all_goals exact HF.out _ _ _ K1.out (.inr (by simp))
    · by_cases hcq : c ≤ q
      · have hcq' : c = q := by omega
        have HE : Hid (c = q ∧ c - q = 0) := ⟨hcq', by omega⟩
        clear hcq'
        go_region_held3 (fun W => W.cell? ⟨db, 2, none⟩ = some (.slice (some ⟨g, o, none⟩) L c))
          (first | assumption)
          (first | (go_at_call 27; with_reducible refine (HR.out _ ?_).mono ?_; (first | exact (Fr.refl _ _).drew | exact Fr.refl _ _); rintro e w2 ⟨rfl, u2, K1⟩))
        all_goals go_wp2_with fail
        all_goals exact HF.out _ _ _ K1.out (.inr ⟨HE.out.1, by first | rfl | exact HE.out.2⟩)
      · go_region_held3 (fun W => W.cell? ⟨db, 2, none⟩ = some (.slice (some ⟨g, o, none⟩) L c))
          (first | assumption)
          (first | (go_at_call 27; with_reducible refine (HR.out _ ?_).mono ?_; (first | exact (Fr.refl _ _).drew | exact Fr.refl _ _); rintro e w2 ⟨rfl, u2, K1⟩))
        all_goals go_wp2_with fail
        all_goals exact HF.out _ _ _ K1.out (.inl ⟨g, o, rfl, by first | rfl | (rw [if_neg (by omega)]), rfl⟩)
  · have HF : Hid (∀ V, Nw w V → P (.returned (.slice none 0 0)) V) := fun V hV => by rw [hP, if_neg h0]; exact ⟨_, rfl, .inl ⟨none, rfl, rfl⟩, hV⟩
    have HD : Hid (Calls Tryd.prog 26 #[.pointer (some ⟨db, 0, none⟩)] w fun e w1 => e = .returned (.bool false) ∧ Hid (Nw w w1)) := by
      show Calls _ _ _ _ _
      refine (mdone_any h).mono ?_
      rintro e w1 ⟨rfl, hN1⟩
      exact ⟨by rw [decide_eq_false h0], hN1⟩
    clear hP h h0
    go_enter Tryd.func28, Tryd.ntmps28
    go_wp2_with (first | (go_at_call 26; with_reducible refine HD.out.mono ?_; rintro e w1 ⟨rfl, K1⟩))
    exact HF.out _ K1.out
end Go.Proofs.YtincbbnppcpfpaaDoor

namespace Go.Proofs.YtincbbnppcpfpaaDoor
open Go.RowKit
set_option linter.unusedVariables false
variable {db most told er : Nat} {x : List By} {og : Option Nat} {va : Value} {w : World}
set_option maxHeartbeats 16000000 in
theorem mfeed_err (h : DrI db og va most told er x w) (he : er ≠ 0) (a : Option Addr) (n c : Nat) : Calls Tryd.prog 30 #[.pointer (some ⟨db, 0, none⟩), .slice a n c] w fun e w' => e = .returned (.tuple #[.slice none 0 0, .int .i64 er]) ∧ Nw w w' := by
  obtain ⟨P, hP⟩ : ∃ P : Ending → World → Prop, P = fun e w' => e = .returned (.tuple #[.slice none 0 0, .int .i64 er]) ∧ Nw w w' := ⟨_, rfl⟩
  rw [← hP]
  have c3 := h.c3
  have HF : Hid (∀ V, Nw w V → P (.returned (.tuple #[.slice none 0 0, .int .i64 er])) V) := fun V hV => by rw [hP]; exact ⟨rfl, hV⟩
  have hz := ne0 he
  clear hP h
  go_enter Tryd.func30, Tryd.ntmps30
  go_wp2_with fail
  go_quiet (fail)
  go_wp2_with fail
  exact HF.out _ ((Fr.refl _ _).drewN _)
end Go.Proofs.YtincbbnppcpfpaaDoor

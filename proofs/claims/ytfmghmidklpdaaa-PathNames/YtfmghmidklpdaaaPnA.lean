import Derived.Test.YtfmghmidklpdaaaPxA
namespace Go.Proofs.Ytfmghmidklpdaaa
open Go.RowKit
set_option linter.unusedVariables false
theorem ab_spl : splE [97, 47, 98] = 0 ∧ (splF [97, 47, 98]).1.length = 2 := by decide
theorem split_ab (V : World) : Calls Try.prog 9 #[.string ⟨#[97, 47, 98]⟩] V fun e w' => ∃ a c, e = .returned (.tuple #[.slice a 2 c, .int .i64 0]) ∧ Hid (Nw V w') := by
  refine (psplit_any V [97, 47, 98] (by simp)).mono ?_
  rintro e w' ⟨a, n, c, rfl, h⟩
  have hn := h.len.1
  rw [ab_spl.2] at hn
  subst hn
  obtain ⟨og, h1, h2, h3⟩ := h
  exact ⟨a, c, by rw [ab_spl.1]; rfl, h3⟩
namespace pathNames
set_option maxHeartbeats 16000000 in
set_option maxRecDepth 100000 in
theorem walk (w : World) (l : Tx) (hl : l.length ≤ 140737488351232) :
    Calls Try.prog 3 #[.string (mk l)] w fun e w' => e = .returned (.bool true) ∧ Nw w w' := by
  obtain ⟨P, hP⟩ : ∃ P : Ending → World → Prop, P = fun e w' => e = .returned (.bool true) ∧ Nw w w' := ⟨_, rfl⟩
  rw [← hP]
  have HF : Hid (∀ V, Nw w V → P (.returned (.bool true)) V) := fun V hV => by rw [hP]; exact ⟨rfl, hV⟩
  have HS : Hid (∀ V, Calls Try.prog 9 #[.string (mk l)] V fun e w' => ∃ a n c, e = .returned (.tuple #[.slice a n c, .int .i64 ((splE l : Nat) : Int)]) ∧ Hid (SpA V l a n c w')) := fun V => psplit_any V l hl
  have HR : Hid (∀ V, Calls Try.prog 10 #[.string (mk l)] V fun e w' => ∃ a n c, e = .returned (.tuple #[.slice a n c, .int .i64 ((splE l : Nat) : Int)]) ∧ Hid (SpA V l a n c w')) := fun V => qsplit_any V l hl
  have HC : Hid (∀ V, Calls Try.prog 11 #[.string (mk l)] V fun e w' => e = .returned (.tuple #[.string (mk (clnF l).1), .int .i64 ((splE l : Nat) : Int)]) ∧ Hid (Nw V w')) := fun V => pclean_any V l hl
  have HD : Hid (∀ V, Calls Try.prog 12 #[.string (mk l)] V fun e w' => e = .returned (.tuple #[.string (mk (clnF l).1), .int .i64 ((splE l : Nat) : Int)]) ∧ Hid (Nw V w')) := fun V => qclean_any V l hl
  have HAB := tHid split_ab
  clear hP hl
  obtain ⟨X, hX⟩ : ∃ X, X = (splF l).1 := ⟨_, rfl⟩
  have HX : Hid (X = (splF l).1 ∧ X.length ≤ 256) := ⟨hX, by rw [hX]; exact spl_few l⟩
  clear hX
  have hcc : ((mk (clnF l).1).toList == (mk (clnF l).1).toList) = true := beq_self_eq_true _
  have hyy : (((splE l : Nat) : Int) == ((splE l : Nat) : Int)) = true := beq_self_eq_true _
  generalize mk (clnF l).1 = sc at *
  generalize splE l = Y at *
  generalize mk l = s at *
  go_enter Try.func3, Try.ntmps3
  go_upto_region 6 with (first
    | (go_at_call 9; with_reducible refine (HS.out w).mono ?_; rintro e w1 ⟨a1, n1, c1, rfl, H1⟩)
    | (go_at_call 9; with_reducible refine (HS.out w1).mono ?_; rintro e w2 ⟨a2, n2, c2, rfl, H2⟩)
    | (go_at_call 10; with_reducible refine (HR.out w2).mono ?_; rintro e w3 ⟨a3, n3, c3, rfl, H3⟩)
    | (go_at_call 11; with_reducible refine (HC.out w3).mono ?_; rintro e w4 ⟨rfl, H4⟩)
    | (go_at_call 12; with_reducible refine (HD.out w4).mono ?_; rintro e w5 ⟨rfl, H5⟩))
  clear HS HR HC HD
  have HALL : Hid (∃ og1 og2 og3, OgR RS og1 (.slice a1 n1 c1) X w5 ∧ OgR RS og2 (.slice a2 n2 c2) X w5 ∧ OgR RS og3 (.slice a3 n3 c3) X w5 ∧ (∀ g, og1 = some g → w.heap.size ≤ g ∧ og2 ≠ some g ∧ og3 ≠ some g) ∧ Nw w w5 ∧ n1 ≤ 256) := by
    obtain ⟨og1, p1, p2, p3⟩ := H1.out
    obtain ⟨og2, q1, q2, q3⟩ := H2.out
    obtain ⟨og3, r1, r2, r3⟩ := H3.out
    rw [← HX.out.1] at p1 q1 r1
    have N45 := H4.out.trans H5.out
    refine ⟨og1, og2, og3, ((p1.nw q3).nw r3).nw N45, (q1.nw r3).nw N45, r1.nw N45, fun g hg => ⟨p2 g hg, fun e => ?_, fun e => ?_⟩, ((p3.trans q3).trans r3).trans N45, ?_⟩
    · have := p1.lt g hg
      have := q2 g e
      omega
    · have := p1.lt g hg
      have := r2 g e
      have := q3.size
      omega
    · have := (og_len p1).1
      have := HX.out.2
      omega
  clear H1 H2 H3 H4 H5
  obtain ⟨og1, og2, og3, p1, p2, p3, p4, p5, p6⟩ := HALL.out
  have HS1 : Hid (∀ V, Nw w5 V → Calls Try.prog 13 #[.slice a1 n1 c1, .slice a3 n3 c3] V fun e w' => e = .returned (.bool true) ∧ Hid (Nw w5 w')) := fun V hV => (usame_any V _ _ X X ((p1.nw hV).slr rsOk).any ((p3.nw hV).slr rsOk).any).mono (fun e w' ⟨h1, h2⟩ => ⟨by rw [h1, decide_eq_true rfl], hV.trans h2⟩)
  have HS2 : Hid (∀ V, Nw w5 V → Calls Try.prog 13 #[.slice a2 n2 c2, .slice a3 n3 c3] V fun e w' => e = .returned (.bool true) ∧ Hid (Nw w5 w')) := fun V hV => (usame_any V _ _ X X ((p2.nw hV).slr rsOk).any ((p3.nw hV).slr rsOk).any).mono (fun e w' ⟨h1, h2⟩ => ⟨by rw [h1, decide_eq_true rfl], hV.trans h2⟩)
  have H5 : Hid (Nw w5 w5) := Fr.refl _ _
  have HW : Hid (∀ V, Nw w5 V → Calls Try.prog 14 #[.slice a1 n1 c1] V fun e w7 => e = .returned (.tuple #[]) ∧ Hid (Nw w w7 ∧ OgR RS og2 (.slice a2 n2 c2) X w7 ∧ OgR RS og3 (.slice a3 n3 c3) X w7)) := fun V hV => by
    refine (written_any V og1 a1 n1 c1 X (p1.nw hV) (by omega)).mono ?_
    rintro e w7 ⟨rfl, hF⟩
    refine ⟨rfl, Fr.then (p5.trans hV) hF (fun i hi => .inr (p4 i hi).1), (p2.nw hV).kept hF (fun g hg hk => (p4 g hk).2.1 hg), (p3.nw hV).kept hF (fun g hg hk => (p4 g hk).2.2 hg)⟩
  have HS3 : Hid (∀ V U, (Nw w V ∧ OgR RS og2 (.slice a2 n2 c2) X V ∧ OgR RS og3 (.slice a3 n3 c3) X V) → Nw V U → Calls Try.prog 13 #[.slice a2 n2 c2, .slice a3 n3 c3] U fun e w' => e = .returned (.bool true) ∧ Hid (Nw w w')) := fun V U h hU => (usame_any U _ _ X X ((h.2.1.nw hU).slr rsOk).any ((h.2.2.nw hU).slr rsOk).any).mono (fun e w' ⟨h1, h2⟩ => ⟨by rw [h1, decide_eq_true rfl], (h.1.trans hU).trans h2⟩)
  clear p1 p2 p3 p4 p5 p6 HALL HX
  go_cut [64] (fun x wx => x = .bool false ∧ Hid (Nw w5 wx))
  case first =>
    clear HW HS3 HF HAB
    go_wp2_with (first
      | (go_at_call 13; with_reducible refine (HS1.out _ H5.out).mono ?_; rintro e w6 ⟨rfl, H6⟩)
      | (go_at_call 13; with_reducible refine (HS2.out _ H6.out).mono ?_; rintro e w7 ⟨rfl, H7⟩))
    go_meet
    exact ⟨rfl, H7⟩
  case rest =>
  obtain ⟨rfl, HCUT⟩ := hcut
  clear HS1 HS2
  obtain ⟨wA, h⟩ : ∃ z, z = wc := ⟨_, rfl⟩
  subst h
  go_wp2_with (first
    | (go_at_call 14; with_reducible refine (HW.out _ HCUT.out).mono ?_; rintro e w7 ⟨rfl, H7⟩)
    | (go_at_call 9; with_reducible refine (HAB.out _).mono ?_; rintro e w8 ⟨a8, c8, rfl, H8⟩)
    | (go_at_call 13; with_reducible refine (HS3.out _ _ H7.out H8.out).mono ?_; rintro e w9 ⟨rfl, H9⟩))
  exact HF.out _ H9.out
end pathNames
end Go.Proofs.Ytfmghmidklpdaaa

import Derived.Test.YtkpkiajehclbhaaCqF
namespace Go.Proofs.Ytkpkiajehclbhaa
open Go.RowKit
set_option linter.unusedVariables false
variable {ls : List Nat}
theorem lie_iff (R N i : Nat) (hi : i < ls.length) (h0 : ls.getD i 0 ≠ 0) : ((wb ls i).length ≤ (bl R N).length ∧ (bl R N).take (wb ls i).length = wb ls i) ↔ Lie ls R N i := by
  rw [wb_length, bl_length]
  constructor
  · rintro ⟨h1, h2⟩
    rw [bl_take _ _ _ h1] at h2
    exact ⟨hi, h0, h1, h2⟩
  · rintro ⟨_, _, h1, h2⟩
    exact ⟨h1, by rw [bl_take _ _ _ h1]; exact h2⟩
theorem shr_iff2 (R N i : Nat) (hi : i < ls.length) (h0 : ls.getD i 0 ≠ 0) : ((bl R N).length ≤ (wb ls i).length ∧ (wb ls i).take (bl R N).length = bl R N) ↔ Shr ls R N i := by
  rw [wb_length, bl_length]
  constructor
  · rintro ⟨h1, h2⟩
    exact ⟨hi, h0, h1, h2⟩
  · rintro ⟨_, _, h1, h2⟩
    exact ⟨h1, h2⟩
/-- What has been seen of the words. -/
def SeI (ls : List Nat) (R N I : Nat) (b : Bool) : Prop := (∀ j, j < I → ¬ Lie ls R N j) ∧ (b = true ↔ ∃ j, j < I ∧ Shr ls R N j)
theorem SeI.start (R N : Nat) : SeI ls R N 0 false := ⟨fun j hj => by omega, by simp⟩
theorem SeI.skip {R N I : Nat} {b : Bool} (h : SeI ls R N I b) (h0 : ls.getD I 0 = 0) : SeI ls R N (I + 1) b := by
  refine ⟨fun j hj hl => ?_, h.2.trans ⟨fun ⟨j, hj, hs⟩ => ⟨j, by omega, hs⟩, fun ⟨j, hj, hs⟩ => ⟨j, ?_, hs⟩⟩⟩
  · rcases Nat.lt_or_ge j I with h1 | h1
    · exact h.1 j h1 hl
    · obtain rfl : j = I := by omega
      exact hl.2.1 h0
  · rcases Nat.lt_or_ge j I with h1 | h1
    · exact h1
    · obtain rfl : j = I := by omega
      exact absurd h0 hs.2.1
theorem SeI.next {R N I : Nat} {b b' : Bool} (h : SeI ls R N I b) (hl : ¬ Lie ls R N I) (hb : b' = true ↔ (b = true ∨ Shr ls R N I)) : SeI ls R N (I + 1) b' := by
  refine ⟨fun j hj hl' => ?_, hb.trans ⟨?_, ?_⟩⟩
  · rcases Nat.lt_or_ge j I with h1 | h1
    · exact h.1 j h1 hl'
    · obtain rfl : j = I := by omega
      exact hl hl'
  · rintro (h1 | h1)
    · obtain ⟨j, hj, hs⟩ := h.2.1 h1
      exact ⟨j, by omega, hs⟩
    · exact ⟨I, by omega, h1⟩
  · rintro ⟨j, hj, hs⟩
    rcases Nat.lt_or_ge j I with h1 | h1
    · exact .inl (h.2.2 ⟨j, h1, hs⟩)
    · obtain rfl : j = I := by omega
      exact .inr hs
theorem SeI.done {R N : Nat} {b : Bool} (h : SeI ls R N ls.length b) : SRaw ls R N 0 0 (if b then 50 else 52) := by
  refine .inr ⟨rfl, rfl, fun i hi => h.1 i hi.1 hi, ?_⟩
  cases b with
  | true =>
    obtain ⟨j, _, hj⟩ := h.2.1 rfl
    exact .inl ⟨rfl, j, hj⟩
  | false =>
    refine .inr ⟨rfl, fun i hi => ?_⟩
    have := h.2.2 ⟨i, hi.1, hi⟩
    cases this
def SReadA (ls : List Nat) (R N : Nat) (w : World) (e : Ending) (w' : World) : Prop := ∃ s n h, e = .returned (.tuple #[.int .i64 (s : Nat), .int .i64 (n : Nat), .int .i64 (h : Nat)]) ∧ SRaw ls R N s n h ∧ Nw w w'
set_option maxHeartbeats 16000000 in
set_option maxRecDepth 100000 in
theorem sread_any (w : World) (v vr : Value) (R N : Nat) (h : SlR RI (fun k => w.heap.size ≤ k) v (toI ls) w) (hk : Cod ls) (hr : Sl (fun _ => False) vr (bl R N) w) (hN : N ≤ 140737488351232) : Calls Try.prog 38 #[v, vr] w (SReadA ls R N w) := by
  obtain ⟨P, hP⟩ : ∃ P : Ending → World → Prop, P = SReadA ls R N w := ⟨_, rfl⟩
  rw [← hP]
  have hlen := hk.len
  have HP : Hid (∀ s n h V, SRaw ls R N s n h → Nw w V → P (.returned (.tuple #[.int .i64 (s : Nat), .int .i64 (n : Nat), .int .i64 (h : Nat)])) V) := fun s n h V h1 h2 => by rw [hP]; exact ⟨s, n, h, rfl, h1, h2⟩
  have HW : Hid (Calls Try.prog 53 #[v] w fun e w' => ∃ gW, e = .returned (.slice (some ⟨gW, 0, none⟩) ls.length ls.length) ∧ Hid (Nw w w') ∧ Hid (∀ V j, Nw w' V → j < ls.length → ∃ a c, V.cell? ⟨gW, j, none⟩ = some (.slice a (ls.getD j 0) c) ∧ ls.getD j 0 ≤ c ∧ c < 9223372036854775808 ∧ Sl (fun _ => False) (.slice a (ls.getD j 0) c) (wb ls j) V)) := by
    refine (swords_any w _ ls h hk).mono ?_
    rintro e w' ⟨gW, vs, rfl, hW⟩
    refine ⟨gW, rfl, hW.nw, fun V j hV hj => ?_⟩
    obtain ⟨a', c', q1, q2⟩ := (hW.keep hV).at hk j hj
    obtain ⟨a2, c2, e2, hin⟩ := q2.in' (by rw [wb_length]; have := hk.each j; omega)
    rw [wb_length] at e2
    cases e2
    have i1 := hin.1
    rw [wb_length] at i1
    exact ⟨a', c', q1, i1, hin.2.1, q2⟩
  have HR : Hid (∀ V, Nw w V → Sl (fun _ => False) vr (bl R N) V) := fun V hV => hr.nw hV
  obtain ⟨a, c, rfl, hc, hc2, hca⟩ := h.form
  rw [toI_length] at *
  have HE : Hid (∀ i, ls.getD i 0 ≤ 15) := hk.each
  clear hP h hk
  generalize hL : ls.length = L at *
  have hL' : Hid (ls.length = L) := hL
  clear hL
  go_enter Try.func38, Try.ntmps38
  go_wp2_with (first | (go_at_call 53; (with_reducible refine HW.out.mono ?_); rintro e w1 ⟨gW, rfl, HN1, HC⟩))
  clear HW
  go_loopg [8, 9] L (fun kx b i wr => ∃ (I : Nat) (bb : Bool), I ≤ L ∧ L - I ≤ kx ∧ b = .bool bb ∧ i = .int .i64 I ∧ Hid (SeI ls R N I bb) ∧ Hid (Nw w1 wr))
  case atStart => exact ⟨0, false, by omega, by omega, rfl, rfl, SeI.start R N, Fr.refl _ _⟩
  case round =>
    obtain ⟨I, bb, hI, hkx, rfl, rfl, HI, HV⟩ := hrel
    by_cases hlt : I < L
    · have hiI : I < ls.length := by rw [hL'.out]; exact hlt
      obtain ⟨a', c', q1, q2, q3, q4⟩ := HC.out wr I HV.out hlt
      have hz : (I : Int) < (L : Int) := by omega
      have h15 := HE.out I
      by_cases h0 : ls.getD I 0 = 0
      · have HI2 : Hid (SeI ls R N (I + 1) bb) := HI.out.skip h0
        rw [h0] at q1
        clear HI q4 HC HR HP HE
        go_wp2_with fail
        go_roundg (L - (I + 1))
        case measure => omega
        case rel => exact ⟨I + 1, bb, by omega, by omega, rfl, by first | rfl | (congr 1), HI2, HV⟩
      · have HS1 : Hid (Calls Try.prog 55 #[vr, .slice a' (ls.getD I 0) c'] wr fun e w' => ∃ b : Bool, e = .returned (.bool b) ∧ (b = true ↔ Lie ls R N I) ∧ Hid (Nw wr w')) := by
          refine (sstarts_any wr _ _ (bl R N) (wb ls I) (HR.out _ (HN1.out.trans HV.out)) q4 (by rw [bl_length]; exact hN) (by rw [wb_length]; omega)).mono ?_
          rintro e w' ⟨rfl, hw⟩
          refine ⟨_, rfl, ?_, hw⟩
          rw [decide_eq_true_eq]
          exact lie_iff R N I hiI h0
        by_cases hl : Lie ls R N I
        · have HS2 : Hid (Calls Try.prog 55 #[vr, .slice a' (ls.getD I 0) c'] wr fun e w' => e = .returned (.bool true) ∧ w'.cell? ⟨gW, I, none⟩ = some (.slice a' (ls.getD I 0) c') ∧ Hid (Nw wr w')) := HS1.out.mono (by
            rintro e w' ⟨b, rfl, hb, hw⟩
            rw [hb.2 hl]
            exact ⟨rfl, hw.out.cell q1, hw⟩)
          have HF : Hid (∀ V, Nw wr V → P (.returned (.tuple #[.int .i64 I, .int .i64 (ls.getD I 0 : Nat), .int .i64 0])) V) := fun V hV => HP.out I _ 0 V (.inl ⟨rfl, rfl, hl⟩) ((HN1.out.trans HV.out).trans hV)
          clear HI q4 HC HR HP HE HS1 hl hr HN1 HV
          generalize ls.getD I 0 = n at *
          go_wp2_with (first | (go_at_call 55; (with_reducible refine HS2.out.mono ?_); rintro e w2 ⟨rfl, q5, H2⟩))
          go_quiet (fail)
          go_wp2_with fail
          exact HF.out _ (H2.out.trans ((Fr.refl _ _).drewN _))
        · have HS2 : Hid (Calls Try.prog 55 #[vr, .slice a' (ls.getD I 0) c'] wr fun e w' => e = .returned (.bool false) ∧ w'.cell? ⟨gW, I, none⟩ = some (.slice a' (ls.getD I 0) c') ∧ Hid (Nw wr w')) := HS1.out.mono (by
            rintro e w' ⟨b, rfl, hb, hw⟩
            cases b with
            | true => exact absurd (hb.1 rfl) hl
            | false => exact ⟨rfl, hw.out.cell q1, hw⟩)
          cases bb with
          | true =>
            have HI2 : Hid (SeI ls R N (I + 1) true) := HI.out.next hl (by simp)
            have HV2 : Hid (∀ V, Nw wr V → Nw w1 V) := fun V hV => HV.out.trans hV
            clear HI q4 HC HR HP HE HS1 hl hr HN1 HV
            generalize ls.getD I 0 = n at *
            go_wp2_with (first | (go_at_call 55; (with_reducible refine HS2.out.mono ?_); rintro e w2 ⟨rfl, q5, H2⟩))
            go_roundg (L - (I + 1))
            case measure => omega
            case rel => exact ⟨I + 1, true, by omega, by omega, rfl, by first | rfl | (congr 1), HI2, HV2.out _ H2.out⟩
          | false =>
            have HS3 : Hid (∀ V, Nw wr V → Calls Try.prog 55 #[.slice a' (ls.getD I 0) c', vr] V fun e w' => ∃ b : Bool, e = .returned (.bool b) ∧ Hid (b = true ↔ Shr ls R N I) ∧ Hid (Nw w1 w')) := fun V hV => by
              refine (sstarts_any V _ _ (wb ls I) (bl R N) (q4.nw hV) (HR.out _ ((HN1.out.trans HV.out).trans hV)) (by rw [wb_length]; omega) (by rw [bl_length]; exact hN)).mono ?_
              rintro e w' ⟨rfl, hw⟩
              refine ⟨_, rfl, ?_, (HV.out.trans hV).trans hw⟩
              show _ = true ↔ _
              rw [decide_eq_true_eq]
              exact shr_iff2 R N I hiI h0
            have HI2 : Hid (∀ b : Bool, (b = true ↔ Shr ls R N I) → SeI ls R N (I + 1) b) := fun b hb => HI.out.next hl (by simpa using hb)
            clear HI q4 HC HR HP HE HS1 hl hr HN1 HV
            generalize ls.getD I 0 = n at *
            go_wp2_with (first | (go_at_call 55; (with_reducible refine HS2.out.mono ?_); rintro e w2 ⟨rfl, q5, H2⟩) | (go_at_call 55; (with_reducible refine (HS3.out _ H2.out).mono ?_); rintro e w3 ⟨b3, rfl, H3, H4⟩))
            go_roundg (L - (I + 1))
            case measure => omega
            case rel => exact ⟨I + 1, b3, by omega, by omega, rfl, by first | rfl | (congr 1), HI2.out _ H3.out, H4⟩
    · obtain rfl : I = L := by omega
      have hz : ¬ (I : Int) < (I : Int) := by omega
      have HF : Hid (P (.returned (.tuple #[.int .i64 0, .int .i64 0, .int .i64 ((if bb then 50 else 52 : Nat) : Int)])) wr) := HP.out 0 0 _ wr (SeI.done (by rw [hL'.out]; exact HI.out)) (HN1.out.trans HV.out)
      clear HI HC HR HP HE HV
      cases bb with
      | true =>
        go_wp2_with fail
        exact HF.out
      | false =>
        go_wp2_with fail
        exact HF.out
end Go.Proofs.Ytkpkiajehclbhaa

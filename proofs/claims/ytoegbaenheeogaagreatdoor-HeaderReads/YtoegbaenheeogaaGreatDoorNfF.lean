import Derived.Test.YtoegbaenheeogaaGreatDoorNfE
namespace Go.Proofs.YtoegbaenheeogaaGreatDoor
open Go.RowKit
set_option linter.unusedVariables false
theorem bz_cases (p : Bool) : p = true ∨ p = false := by cases p <;> simp
set_option maxHeartbeats 4000000 in
set_option maxRecDepth 100000 in
/-- bytes.TrimLeft of blanks. -/
theorem triml_any {X : Nat → Prop} (w : World) (a : Option Addr) (n c : Nat) (b : List By) (hb : Sl X (.slice a n c) b w) :
    Calls Tryz.prog 55 #[.slice a n c, .string ⟨#[32]⟩] w fun e w' => ∃ a' n' c', e = .returned (.slice a' n' c') ∧ Hid (Sl X (.slice a' n' c') (b.dropWhile isBl) w) ∧ w = w' := by
  obtain ⟨P, hP⟩ : ∃ P : Ending → World → Prop, P = fun e w' => ∃ a' n' c', e = .returned (.slice a' n' c') ∧ Hid (Sl X (.slice a' n' c') (b.dropWhile isBl) w) ∧ w = w' := ⟨_, rfl⟩
  rw [← hP]
  have HF : Hid (∀ a' n' c', Sl X (.slice a' n' c') (b.dropWhile isBl) w → P (.returned (.slice a' n' c')) w) := fun a' n' c' h => by rw [hP]; exact ⟨a', n', c', rfl, h, rfl⟩
  clear hP
  obtain ⟨hbn, k1, k2⟩ := sl_len hb
  by_cases h0 : n = 0
  · subst h0
    have HF2 := tHid (HF.out none 0 0 (by rw [List.length_eq_zero_iff.1 hbn]; exact .inl ⟨none, rfl, rfl⟩))
    clear HF hb
    go_enter Tryz.func55, Tryz.ntmps55
    go_wp2_with fail
    first | exact HF2.out | (go_ret; exact HF2.out)
  · have z1 : ((n : Int) == 0) = false := by rw [beq_eq_false_iff_ne]; omega
    have z2 : ¬ (n : Int) = 0 := by omega
    have HT := tHid (trimlb_any w a n c b hb)
    obtain ⟨cs, hcs⟩ : ∃ cs : ByteArray, cs = ⟨#[32]⟩ := ⟨_, rfl⟩
    rw [← hcs]
    have hsz : cs.size = 1 := by rw [hcs]; rfl
    have hem : cs.toList.isEmpty = false := by rw [hcs, ByteArray.toList_eq]; rfl
    have e0 : ∀ h, (cs[0]'h).toNat = 32 := by subst hcs; intro h; rfl
    clear hcs hb h0 hbn
    go_enter Tryz.func55, Tryz.ntmps55
    go_wp2_with (first
      | (go_at_call 74; with_reducible refine HT.out.mono ?_; rintro e w2 ⟨a', n', c', rfl, HM2, rfl⟩))
    have HF2 := tHid (HF.out _ _ _ HM2.out)
    first | exact HF2.out | (go_ret; exact HF2.out)
set_option maxHeartbeats 1000000 in
set_option maxRecDepth 100000 in
theorem noDigit_any (x : By) (w : World) : Calls Tryz.prog 57 #[.int .u8 x.toNat] w fun e w' => e = .returned (.bool (!isD x)) ∧ w = w' := by
  obtain ⟨P, hP⟩ : ∃ P : Ending → World → Prop, P = fun e w' => e = .returned (.bool (!isD x)) ∧ w = w' := ⟨_, rfl⟩
  rw [← hP]
  have HF : Hid (P (.returned (.bool (!isD x))) w) := by rw [hP]; exact ⟨rfl, rfl⟩
  clear hP
  have hd : isD x = decide (48 ≤ x.toNat ∧ x.toNat ≤ 55) := rfl
  rw [hd] at HF
  clear hd
  generalize x.toNat = y at *
  by_cases h1 : (y : Int) < 48
  · rw [decide_eq_false (by omega)] at HF
    have d1 : decide ((y : Int) < 48) = true := decide_eq_true h1
    go_enter Tryz.func57, Tryz.ntmps57
    go_wp2
    exact HF.out
  · have d1 : decide ((y : Int) < 48) = false := decide_eq_false h1
    by_cases h2 : (55 : Int) < (y : Int)
    · rw [decide_eq_false (by omega)] at HF
      have d2 : decide ((55 : Int) < (y : Int)) = true := decide_eq_true h2
      go_enter Tryz.func57, Tryz.ntmps57
      go_wp2
      exact HF.out
    · rw [decide_eq_true (by omega)] at HF
      have d2 : decide ((55 : Int) < (y : Int)) = false := decide_eq_false h2
      go_enter Tryz.func57, Tryz.ntmps57
      go_wp2
      exact HF.out
set_option maxHeartbeats 8000000 in
set_option maxRecDepth 100000 in
theorem indexFB_any {X : Nat → Prop} (w : World) (a : Option Addr) (n c : Nat) (b : List By) (hb : Sl X (.slice a n c) b w) :
    Calls Tryz.prog 77 #[.slice a n c, .func (.func 57) #[] #[]] w fun e w' => ∃ z : Int, e = .returned (.int .i64 z) ∧ decide (0 ≤ z) = !(b.all isD) ∧ w = w' := by
  obtain ⟨P, hP⟩ : ∃ P : Ending → World → Prop, P = fun e w' => ∃ z : Int, e = .returned (.int .i64 z) ∧ decide (0 ≤ z) = !(b.all isD) ∧ w = w' := ⟨_, rfl⟩
  rw [← hP]
  have HF : Hid (∀ z, decide (0 ≤ z) = !(b.all isD) → P (.returned (.int .i64 z)) w) := fun z hz => by rw [hP]; exact ⟨z, rfl, hz, rfl⟩
  clear hP
  obtain ⟨hbn, k1, k2⟩ := sl_len hb
  have HR : Hid (∀ I, (hI : I < b.length) → ∃ g o, a = some ⟨g, o, none⟩ ∧ w.cell? ⟨g, o + I, none⟩ = some (.int .u8 b[I].toNat)) := fun I hI => by
    rcases hb with ⟨a', e, e2⟩ | ⟨g, _, o, c', e, e1, e2, hr⟩
    · subst e2; simp at hI
    · injection e with e _ ec
      exact ⟨g, o, e, hr I hI⟩
  have HC := tHid (fun x : By => noDigit_any x w)
  have HBN := tHid hbn
  clear hb hbn
  have eg := enters_of Tryz.func57 (by kernel_rfl) rfl
  go_enter Tryz.func77, Tryz.ntmps77
  go_wp2
  go_loopg [8] n (fun kx i wr => ∃ (I : Nat), I ≤ n ∧ n - I ≤ kx ∧ i = .int .i64 I ∧ wr = w ∧ Hid ((b.take I).all isD = true))
  case atStart => exact ⟨0, by omega, by omega, rfl, rfl, rfl⟩
  case round =>
    obtain ⟨I, hI, hkx, rfl, rfl, HI⟩ := hrel
    by_cases hlt : I < n
    · have hlt' : I < b.length := by have := HBN.out; omega
      obtain ⟨g1, o1, rfl, hcell1⟩ := HR.out I hlt'
      have HCx := tHid (HC.out b[I])
      cases hd : isD b[I] with
      | true =>
        have HN : Hid ((b.take (I + 1)).all isD = true) := by
          show _ = _
          rw [take_snoc b I hlt', List.all_append, HI.out, List.all_cons, hd]; rfl
        rw [hd] at HCx
        clear HI HF HR HC HBN hd
        generalize b[I].toNat = x at *
        go_wp2_with (first | (go_at_fn 57; with_reducible refine HCx.out.mono ?_; rintro e w1 ⟨rfl, rfl⟩) | (go_at_call 57; with_reducible refine HCx.out.mono ?_; rintro e w1 ⟨rfl, rfl⟩))
        go_roundg (n - (I + 1))
        case measure => omega
        case rel => exact ⟨I + 1, by omega, by omega, by first | rfl | (congr 1), rfl, HN⟩
      | false =>
        have HF2 := tHid (HF.out I (by
          rw [decide_eq_true (by omega)]
          have : b.all isD = false := by
            rw [List.all_eq_false]
            exact ⟨b[I], List.getElem_mem hlt', by rw [hd]; decide⟩
          rw [this]; rfl))
        rw [hd] at HCx
        clear HI HF HR HC HBN hd
        generalize b[I].toNat = x at *
        go_wp2_with (first | (go_at_fn 57; with_reducible refine HCx.out.mono ?_; rintro e w1 ⟨rfl, rfl⟩) | (go_at_call 57; with_reducible refine HCx.out.mono ?_; rintro e w1 ⟨rfl, rfl⟩))
        exact HF2.out
    · have HF2 := tHid (HF.out (-1) (by
        have := HI.out
        rw [List.take_of_length_le (by have := HBN.out; omega)] at this
        rw [this]; decide))
      clear HI HF HR HC HBN
      go_wp2_with fail
      exact HF2.out
set_option maxHeartbeats 4000000 in
set_option maxRecDepth 100000 in
theorem containsFB_any {X : Nat → Prop} (w : World) (a : Option Addr) (n c : Nat) (b : List By) (hb : Sl X (.slice a n c) b w) :
    Calls Tryz.prog 56 #[.slice a n c, .func (.func 57) #[] #[]] w fun e w' => e = .returned (.bool (!(b.all isD))) ∧ w = w' := by
  obtain ⟨P, hP⟩ : ∃ P : Ending → World → Prop, P = fun e w' => e = .returned (.bool (!(b.all isD))) ∧ w = w' := ⟨_, rfl⟩
  rw [← hP]
  have HC := tHid (indexFB_any w a n c b hb)
  have HF : Hid (P (.returned (.bool (!(b.all isD)))) w) := by rw [hP]; exact ⟨rfl, rfl⟩
  clear hP hb
  generalize (!(b.all isD)) = B at *
  go_enter Tryz.func56, Tryz.ntmps56
  go_wp2_with (first | (go_at_call 77; with_reducible refine HC.out.mono ?_; rintro e w1 ⟨z, rfl, hz, rfl⟩))
  exact HF.out
theorem sl_take {X : Nat → Prop} {a : Option Addr} {n c : Nat} {l : List By} {w : World} (h : Sl X (.slice a n c) l w) (M : Nat) (hM : M ≤ n) : Sl X (.slice a M c) (l.take M) w := by
  rcases h with ⟨a', e, rfl⟩ | ⟨g, hg, o, c', e, e1, e2, e3⟩
  · cases e
    obtain rfl : M = 0 := by omega
    exact .inl ⟨a, rfl, rfl⟩
  · injection e with ea en ec
    subst ec
    refine .inr ⟨g, hg, o, c, ?_, ?_, e2, e3.take M⟩
    · rw [List.length_take, ea, Nat.min_eq_left (by omega)]
    · rw [List.length_take]; omega
end Go.Proofs.YtoegbaenheeogaaGreatDoor

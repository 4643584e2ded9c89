import Derived.Test.YtoegbaenheeogaaNfM
import Derived.BigQuiet
namespace Go.Proofs.Ytoegbaenheeogaa
open Go.RowKit
set_option linter.unusedVariables false
/-! ### Cut, pure -/
/-- A text has a slash at q. -/
def isSl (s : ByteArray) (q : Nat) : Prop := s.data.toList[q]? = some 47
instance (s : ByteArray) (q : Nat) : Decidable (isSl s q) := by unfold isSl; infer_instance
/-- The last slash ahead of m, or -1. -/
def lix (s : ByteArray) : Nat → Int
  | 0 => -1
  | m + 1 => if isSl s m then (m : Int) else lix s m
theorem lix_spec (s : ByteArray) (m : Nat) : (lix s m = -1 ∧ ∀ q, q < m → ¬ isSl s q) ∨ ∃ i : Nat, lix s m = i ∧ i < m ∧ isSl s i ∧ ∀ q, i < q → q < m → ¬ isSl s q := by
  induction m with
  | zero => exact .inl ⟨rfl, fun q hq => by omega⟩
  | succ m ih =>
    unfold lix
    by_cases h : isSl s m
    · rw [if_pos h]
      exact .inr ⟨m, rfl, by omega, h, fun q h1 h2 => by omega⟩
    · rw [if_neg h]
      rcases ih with ⟨e, H⟩ | ⟨i, e, h1, h2, H⟩
      · refine .inl ⟨e, fun q hq => ?_⟩
        by_cases hqm : q = m
        · subst hqm; exact h
        · exact H q (by omega)
      · refine .inr ⟨i, e, by omega, h2, fun q h3 h4 => ?_⟩
        by_cases hqm : q = m
        · subst hqm; exact h
        · exact H q h3 (by omega)
/-- Where a long name can be cut. -/
def cCond (s : ByteArray) (q : Nat) : Prop := 1 ≤ q ∧ q ≤ 155 ∧ isSl s q ∧ q + 2 ≤ s.size ∧ s.size ≤ q + 101
def cM (s : ByteArray) : Nat := min 156 (s.size - 1)
def cutA (s : ByteArray) : Int := if 1 ≤ lix s (cM s) ∧ (s.size : Int) - lix s (cM s) - 1 ≤ 100 then lix s (cM s) else -1
theorem isSl_lt {s : ByteArray} {q : Nat} (h : isSl s q) : q < s.size := by
  have := (List.getElem?_eq_some_iff.1 h).1
  exact this
theorem cut_cond (s : ByteArray) (p : Nat) (h : cutA s = p) : cCond s p := by
  unfold cutA at h
  split at h
  · next q =>
    rcases lix_spec s (cM s) with ⟨e, H⟩ | ⟨i, e, h1, h2, H⟩
    · rw [e] at q; omega
    · rw [e] at q h
      have hp : p = i := by omega
      subst hp
      have := isSl_lt h2
      unfold cM at h1
      exact ⟨by omega, by omega, h2, by omega, by omega⟩
  · omega
theorem cut_none (s : ByteArray) (h : cutA s = -1) (q : Nat) : ¬ cCond s q := by
  rintro ⟨h1, h2, h3, h4, h5⟩
  have hq : q < cM s := by unfold cM; omega
  unfold cutA at h
  rcases lix_spec s (cM s) with ⟨e, H⟩ | ⟨i, e, g1, g2, H⟩
  · exact H q hq h3
  · have hiq : q ≤ i := by
      apply Classical.byContradiction
      intro hn
      exact H q (by omega) hq h3
    rw [e, if_pos ⟨by omega, by omega⟩] at h
    omega
theorem cut_ge (s : ByteArray) : cutA s = -1 ∨ ∃ p : Nat, cutA s = p := by
  unfold cutA
  split
  · next q => exact .inr ⟨(lix s (cM s)).toNat, by omega⟩
  · exact .inl rfl
/-- The last place at which a name can be cut. -/
theorem cut_last (s : ByteArray) (p : Nat) (h : cCond s p) (H : ∀ q, p < q → ¬ cCond s q) : cutA s = p := by
  rcases cut_ge s with e | ⟨r, e⟩
  · exact absurd h (cut_none s e p)
  · have hr := cut_cond s r e
    have h1 : r ≤ p := Classical.byContradiction fun hn => H r (by omega) hr
    have h2 : p ≤ r := by
      -- p's slash is ahead of the one that was found
      have hp : p < cM s := by unfold cM; have := h.2.1; have := h.2.2.2.1; omega
      rcases lix_spec s (cM s) with ⟨e2, H2⟩ | ⟨i, e2, g1, g2, H2⟩
      · exact absurd h.2.2.1 (H2 p hp)
      · have hpi : p ≤ i := Classical.byContradiction fun hn => H2 p (by omega) hp h.2.2.1
        unfold cutA at e
        rw [e2] at e
        split at e
        · omega
        · omega
    have : r = p := by omega
    rw [e, this]
theorem cut_not (s : ByteArray) (H : ∀ q, ¬ cCond s q) : cutA s = -1 := by
  rcases cut_ge s with e | ⟨r, e⟩
  · exact e
  · exact absurd (cut_cond s r e) (H r)
def cutV (s : ByteArray) : Value := if s.size ≤ 100 then .tuple #[.string ⟨#[]⟩, .string s, .int .i64 0] else if cutA s = -1 then .tuple #[.string ⟨#[]⟩, .string ⟨#[]⟩, .int .i64 133] else .tuple #[.string (s.extract 0 (cutA s).toNat), .string (s.extract ((cutA s).toNat + 1) s.size), .int .i64 0]
theorem cutV_short (s : ByteArray) (h : s.size ≤ 100) : cutV s = .tuple #[.string ⟨#[]⟩, .string s, .int .i64 0] := by unfold cutV; rw [if_pos h]
theorem cutV_no (s : ByteArray) (h : ¬ s.size ≤ 100) (h2 : cutA s = -1) : cutV s = .tuple #[.string ⟨#[]⟩, .string ⟨#[]⟩, .int .i64 133] := by unfold cutV; rw [if_neg h, if_pos h2]
theorem cutV_at (s : ByteArray) (h : ¬ s.size ≤ 100) (p : Nat) (h2 : cutA s = p) : cutV s = .tuple #[.string (s.extract 0 p), .string (s.extract (p + 1) s.size), .int .i64 0] := by
  unfold cutV
  rw [if_neg h, h2, if_neg (by omega), Int.toNat_natCast]
end Go.Proofs.Ytoegbaenheeogaa

namespace Go.Proofs.Ytoegbaenheeogaa
open Go.RowKit
set_option linter.unusedVariables false
/-! ### Cut -/
theorem sl_at (s : ByteArray) (q : Nat) (h : q < s.size) : isSl s q ↔ (s[q]'h) = 47 := by
  unfold isSl
  rw [show s.data.toList[q]? = some (s[q]'h) from Lib.data_getElem? s q h]
  simp
theorem lix_succ (s : ByteArray) (m : Nat) : lix s (m + 1) = if isSl s m then (m : Int) else lix s m := rfl
theorem u8_47 (x : UInt8) : ((x.toNat : Int) == 47) = decide (x = 47) := by
  by_cases h : x = 47
  · subst h; rfl
  · rw [decide_eq_false h, beq_eq_false_iff_ne]
    intro e
    apply h
    apply UInt8.toNat_inj.1
    have : (47 : UInt8).toNat = 47 := rfl
    omega
set_option maxHeartbeats 4000000 in
set_option maxRecDepth 100000 in
theorem lastb_any (s : ByteArray) (w : World) (hs : s.size ≤ 140737488351232) : Calls Try.prog 46 #[.string s, .int .u8 47] w fun e w' => e = .returned (.int .i64 (lix s s.size)) ∧ w = w' := by
  obtain ⟨P, hP⟩ : ∃ P : Ending → World → Prop, P = fun e w' => e = .returned (.int .i64 (lix s s.size)) ∧ w = w' := ⟨_, rfl⟩
  rw [← hP]
  have HF : Hid (P (.returned (.int .i64 (lix s s.size))) w) := by rw [hP]; exact ⟨rfl, rfl⟩
  clear hP
  go_enter Try.func46, Try.ntmps46
  go_upto_region 2 with fail
  go_loopg [5] s.size (fun kx v wr => ∃ I : Nat, I ≤ s.size ∧ I ≤ kx ∧ v = .int .i64 ((I : Int) - 1) ∧ wr = w ∧ Hid (lix s s.size = lix s I))
  case atStart => exact ⟨s.size, Nat.le_refl _, Nat.le_refl _, rfl, rfl, rfl⟩
  case round =>
    obtain ⟨I, hI, hkx, rfl, hw, HI⟩ := hrel
    have hw' := hw.symm
    subst hw'
    clear hw
    cases I with
    | zero =>
      have HF2 : Hid (P (.returned (.int .i64 (-1))) w) := by
        have := HF.out
        rw [HI.out] at this
        exact this
      clear HF HI
      go_wp2_with fail
      first | exact HF2.out | (go_ret; exact HF2.out)
    | succ J =>
      have hJ : J < s.size := by omega
      have e1 : ((J + 1 : Nat) : Int) - 1 = (J : Int) := by omega
      rw [e1]
      obtain ⟨x, hx⟩ : ∃ x : UInt8, s[J]'hJ = x := ⟨_, rfl⟩
      have hsl := sl_at s J hJ
      rw [hx] at hsl
      have hxx := u8_47 x
      by_cases h47 : x = 47
      · rw [decide_eq_true h47] at hxx
        have HF2 : Hid (P (.returned (.int .i64 (J : Int))) w) := by
          have := HF.out
          rw [HI.out] at this
          rw [lix_succ, if_pos (hsl.2 h47)] at this
          exact this
        clear HF HI hsl h47
        go_wp2_with fail
        first | exact HF2.out | (go_ret; exact HF2.out)
      · rw [decide_eq_false h47] at hxx
        have HI2 : Hid (lix s s.size = lix s J) := by
          have := HI.out
          rw [lix_succ, if_neg (fun q => h47 (hsl.1 q))] at this
          exact this
        clear HI hsl h47
        go_wp2_with fail
        go_roundg J
        case measure => omega
        case rel => exact ⟨J, by omega, Nat.le_refl _, by first | rfl | (congr 1), rfl, HI2⟩
set_option maxHeartbeats 4000000 in
set_option maxRecDepth 100000 in
theorem last_any (s : ByteArray) (w : World) (hs : s.size ≤ 140737488351232) : Calls Try.prog 29 #[.string s, .string ⟨#[47]⟩] w fun e w' => e = .returned (.int .i64 (lix s s.size)) ∧ w = w' := by
  obtain ⟨P, hP⟩ : ∃ P : Ending → World → Prop, P = fun e w' => e = .returned (.int .i64 (lix s s.size)) ∧ w = w' := ⟨_, rfl⟩
  rw [← hP]
  have HF : Hid (P (.returned (.int .i64 (lix s s.size))) w) := by rw [hP]; exact ⟨rfl, rfl⟩
  have HL := tHid (lastb_any s w hs)
  obtain ⟨sp, hsp⟩ : ∃ sp : ByteArray, sp = ⟨#[47]⟩ := ⟨_, rfl⟩
  rw [← hsp]
  have hz : sp.size = 1 := by rw [hsp]; rfl
  have e0 : ∀ h, (sp[0]'h).toNat = 47 := by subst hsp; intro h; rfl
  clear hP hsp
  generalize lix s s.size = r at *
  go_enter Try.func29, Try.ntmps29
  go_wp2_with (first | (go_at_call 46; with_reducible refine HL.out.mono ?_; rintro e w1 ⟨rfl, rfl⟩))
  first | exact HF.out | (go_ret; exact HF.out) | (go_ret3; exact HF.out)
theorem lix_ext (s : ByteArray) (m : Nat) (hm : m ≤ s.size) (k : Nat) (hk : k ≤ m) : lix (s.extract 0 m) k = lix s k := by
  induction k with
  | zero => rfl
  | succ k ih =>
    unfold lix
    have e : isSl (s.extract 0 m) k ↔ isSl s k := by
      unfold isSl
      rw [ByteArray.data_extract, Array.toList_extract, List.extract_eq_take_drop]
      simp only [Nat.sub_zero, List.drop_zero, List.getElem?_take]
      rw [if_pos (by omega)]
    rw [ih (by omega)]
    by_cases h : isSl s k
    · rw [if_pos h, if_pos (e.2 h)]
    · rw [if_neg h, if_neg (fun q => h (e.1 q))]
set_option maxHeartbeats 4000000 in
set_option maxRecDepth 100000 in
theorem cut_any (s : ByteArray) (w : World) (hs : s.size ≤ 140737488351232) : Calls Try.prog 10 #[.string s] w fun e w' => e = .returned (cutV s) ∧ Nw w w' := by
  obtain ⟨P, hP⟩ : ∃ P : Ending → World → Prop, P = fun e w' => e = .returned (cutV s) ∧ Nw w w' := ⟨_, rfl⟩
  rw [← hP]
  have HF : Hid (∀ W, Nw w W → P (.returned (cutV s)) W) := fun W hW => by rw [hP]; exact ⟨rfl, hW⟩
  clear hP
  by_cases h1 : s.size ≤ 100
  · rw [cutV_short s h1] at HF
    have d1 : (s.size : Int) ≤ 100 := by omega
    go_enter Try.func10, Try.ntmps10
    go_wp2_with fail
    go_ret3
    exact HF.out _ (Fr.refl _ _)
  · have d1 : ¬ (s.size : Int) ≤ 100 := by omega
    have hM : cM s ≤ s.size := by unfold cM; omega
    have eM : min (156 : Int) ((s.size : Int) - 1) = (cM s : Int) := by unfold cM; omega
    have HL : Hid (Calls Try.prog 29 #[.string (s.extract 0 (cM s)), .string ⟨#[47]⟩] w fun e w' => e = .returned (.int .i64 (lix s (cM s))) ∧ w = w') := by
      have hz : (s.extract 0 (cM s)).size = cM s := by rw [ByteArray.size_extract]; omega
      have := last_any (s.extract 0 (cM s)) w (by omega)
      rw [hz, lix_ext s (cM s) hM (cM s) (Nat.le_refl _)] at this
      exact this
    have hcut : cutA s = if 1 ≤ lix s (cM s) ∧ (s.size : Int) - lix s (cM s) - 1 ≤ 100 then lix s (cM s) else -1 := rfl
    have hge : lix s (cM s) = -1 ∨ ∃ i : Nat, lix s (cM s) = i ∧ i < cM s := by
      rcases lix_spec s (cM s) with ⟨e, _⟩ | ⟨i, e, h1, _⟩
      · exact .inl e
      · exact .inr ⟨i, e, h1⟩
    generalize hr : lix s (cM s) = r at *
    by_cases h2 : r < 1
    · rw [cutV_no s h1 (by rw [hcut, if_neg (by omega)])] at HF
      clear hcut
      go_enter Try.func10, Try.ntmps10
      go_wp2_with (first | (go_at_call 29; with_reducible refine HL.out.mono ?_; rintro e w1 ⟨rfl, rfl⟩))
      go_ret3
      exact HF.out _ (Fr.refl _ _)
    · obtain ⟨i, rfl, hi⟩ : ∃ i : Nat, r = i ∧ i < cM s := by
        rcases hge with e | e
        · omega
        · exact e
      by_cases h3 : (s.size : Int) - i - 1 ≤ 100
      · rw [cutV_at s h1 i (by rw [hcut, if_pos (by omega)])] at HF
        clear hcut hge
        go_enter Try.func10, Try.ntmps10
        go_upto_region 6 with (first | (go_at_call 29; with_reducible refine HL.out.mono ?_; rintro e w1 ⟨rfl, rfl⟩))
        go_quiet (fail)
        go_wp2_with fail
        go_ret3
        exact HF.out _ ((Fr.refl _ _).drewN _)
      · rw [cutV_no s h1 (by rw [hcut, if_neg (by omega)])] at HF
        clear hcut hge
        go_enter Try.func10, Try.ntmps10
        go_wp2_with (first | (go_at_call 29; with_reducible refine HL.out.mono ?_; rintro e w1 ⟨rfl, rfl⟩))
        go_ret3
        exact HF.out _ (Fr.refl _ _)
end Go.Proofs.Ytoegbaenheeogaa

namespace Go.Proofs.Ytoegbaenheeogaa
open Go.RowKit
set_option linter.unusedVariables false
/-! ### The document's Cut, Records and Pad -/
set_option maxHeartbeats 4000000 in
set_option maxRecDepth 100000 in
theorem rcut_any (s : ByteArray) (w : World) (hs : s.size ≤ 140737488351232) : Calls Try.prog 11 #[.string s] w fun e w' => e = .returned (cutV s) ∧ Nw w w' := by
  obtain ⟨P, hP⟩ : ∃ P : Ending → World → Prop, P = fun e w' => e = .returned (cutV s) ∧ Nw w w' := ⟨_, rfl⟩
  rw [← hP]
  have HF : Hid (∀ W, Nw w W → P (.returned (cutV s)) W) := fun W hW => by rw [hP]; exact ⟨rfl, hW⟩
  clear hP
  by_cases h1 : s.size ≤ 100
  · rw [cutV_short s h1] at HF
    have d1 : (s.size : Int) ≤ 100 := by omega
    go_enter Try.func11, Try.ntmps11
    go_wp2_with fail
    go_ret3
    exact HF.out _ (Fr.refl _ _)
  · have d1 : ¬ (s.size : Int) ≤ 100 := by omega
    have H1 := tHid h1
    clear h1
    go_enter Try.func11, Try.ntmps11
    go_upto_region 4 with fail
    go_loopg [5] 155 (fun kx v wr => ∃ I : Nat, I ≤ 155 ∧ I ≤ kx ∧ v = .int .i64 (I : Int) ∧ wr = w ∧ Hid (∀ q, I < q → ¬ cCond s q))
    case atStart => exact ⟨155, Nat.le_refl _, Nat.le_refl _, rfl, rfl, fun q hq hc => by have := hc.2.1; omega⟩
    case round =>
      obtain ⟨I, hI, hkx, rfl, hw, HI⟩ := hrel
      have hw' := hw.symm
      subst hw'
      clear hw
      cases I with
      | zero =>
        have HF2 : Hid (P (.returned (.tuple #[.string ⟨#[]⟩, .string ⟨#[]⟩, .int .i64 133])) w) := by
          rw [← cutV_no s H1.out (cut_not s (fun q hc => HI.out q (by have := hc.1; omega) hc))]
          exact HF.out _ (Fr.refl _ _)
        clear HF HI
        go_wp2_with fail
        go_ret3
        exact HF2.out
      | succ J =>
        have HNX : Hid (¬ cCond s (J + 1) → ∀ q, J < q → ¬ cCond s q) := fun hn q hq => by
          by_cases e : q = J + 1
          · rw [e]; exact hn
          · exact HI.out q (by omega)
        have e1 : ((J + 1 : Nat) : Int) = (J : Int) + 1 := by omega
        have e2 : (J : Int) + 1 - 1 = (J : Int) := by omega
        rw [e1]
        by_cases hlt : J + 1 < s.size
        · have hl : (J : Int) + 1 < (s.size : Int) := by omega
          have hl2 : ((J : Int) + 1).toNat = J + 1 := by omega
          obtain ⟨x, hx⟩ : ∃ x : UInt8, s[J + 1]'hlt = x := ⟨_, rfl⟩
          have hsl := sl_at s (J + 1) hlt
          rw [hx] at hsl
          have hxx := u8_47 x
          by_cases h47 : x = 47
          · rw [decide_eq_true h47] at hxx
            by_cases hb : J + 3 ≤ s.size ∧ s.size ≤ J + 102
            · have hb1 : 1 ≤ (s.size : Int) - ((J : Int) + 1) - 1 := by omega
              have hb2 : (s.size : Int) - ((J : Int) + 1) - 1 ≤ 100 := by omega
              have HF2 : Hid (∀ W, Nw w W → P (.returned (.tuple #[.string (s.extract 0 (J + 1)), .string (s.extract (J + 1 + 1) s.size), .int .i64 0])) W) := fun W hW => by
                rw [← cutV_at s H1.out (J + 1) (cut_last s (J + 1) ⟨by omega, hI, hsl.2 h47, by omega, by omega⟩ HI.out)]
                exact HF.out W hW
              have hc1 : (J : Int) + 1 ≤ (s.size : Int) := by omega
              have hc2 : (J : Int) + 1 + 1 ≤ (s.size : Int) := by omega
              have hl3 : ((J : Int) + 1 + 1).toNat = J + 1 + 1 := by omega
              clear HF HI hsl h47 HNX
              go_upto_region 7 with fail
              go_quiet (fail)
              go_wp2_with fail
              go_ret3
              exact HF2.out _ ((Fr.refl _ _).drewN _)
            · have HI2 := tHid (HNX.out (fun hc => hb ⟨hc.2.2.2.1, by have := hc.2.2.2.2; omega⟩))
              clear HF HI hsl h47 HNX
              by_cases hb1 : 1 ≤ (s.size : Int) - ((J : Int) + 1) - 1
              · have hb2 : ¬ (s.size : Int) - ((J : Int) + 1) - 1 ≤ 100 := by omega
                go_wp2_with fail
                go_roundg J
                case measure => omega
                case rel => exact ⟨J, by omega, Nat.le_refl _, by first | rfl | (congr 1), rfl, HI2⟩
              · go_wp2_with fail
                go_roundg J
                case measure => omega
                case rel => exact ⟨J, by omega, Nat.le_refl _, by first | rfl | (congr 1), rfl, HI2⟩
          · rw [decide_eq_false h47] at hxx
            have HI2 := tHid (HNX.out (fun hc => h47 (hsl.1 hc.2.2.1)))
            clear HF HI hsl h47 HNX
            go_wp2_with fail
            go_roundg J
            case measure => omega
            case rel => exact ⟨J, by omega, Nat.le_refl _, by first | rfl | (congr 1), rfl, HI2⟩
        · have HI2 := tHid (HNX.out (fun hc => by have := hc.2.2.2.1; omega))
          have hl : ¬ (J : Int) + 1 < (s.size : Int) := by omega
          clear HF HI HNX
          go_wp2_with fail
          go_roundg J
          case measure => omega
          case rel => exact ⟨J, by omega, Nat.le_refl _, by first | rfl | (congr 1), rfl, HI2⟩
/-! ### Records, Pad -/
def rcF (n : Int) : Int := if n < 1 then 0 else (n - 1).tdiv 512 + 1
def pdF (n : Int) : Int := if n < 1 then 0 else 511 - (n - 1) % 512
set_option maxHeartbeats 1000000 in
set_option maxRecDepth 100000 in
theorem records_any (n : Int) (w : World) (h1 : -9223372036854775808 ≤ n) (h2 : n ≤ 9223372036854775807) : Calls Try.prog 12 #[.int .i64 n] w fun e w' => e = .returned (.int .i64 (rcF n)) ∧ w = w' := by
  obtain ⟨P, hP⟩ : ∃ P : Ending → World → Prop, P = fun e w' => e = .returned (.int .i64 (rcF n)) ∧ w = w' := ⟨_, rfl⟩
  rw [← hP]
  have HF : Hid (P (.returned (.int .i64 (rcF n))) w) := by rw [hP]; exact ⟨rfl, rfl⟩
  clear hP
  unfold rcF at HF
  by_cases h : n < 1
  · rw [if_pos h] at HF
    go_enter Try.func12, Try.ntmps12
    go_wp2_with fail
    first | exact HF.out | (go_ret; exact HF.out)
  · rw [if_neg h] at HF
    have q1 : 0 ≤ (n - 1).tdiv 512 ∧ (n - 1).tdiv 512 ≤ 9223372036854775806 := by rw [Int.tdiv_eq_ediv_of_nonneg (by omega)]; omega
    go_enter Try.func12, Try.ntmps12
    go_wp2_with fail
    first | exact HF.out | (go_ret; exact HF.out)
set_option maxHeartbeats 1000000 in
set_option maxRecDepth 100000 in
theorem rrecords_any (n : Int) (w : World) (h1 : -9223372036854775808 ≤ n) (h2 : n ≤ 9223372036854775807) : Calls Try.prog 13 #[.int .i64 n] w fun e w' => e = .returned (.int .i64 (rcF n)) ∧ w = w' := by
  obtain ⟨P, hP⟩ : ∃ P : Ending → World → Prop, P = fun e w' => e = .returned (.int .i64 (rcF n)) ∧ w = w' := ⟨_, rfl⟩
  rw [← hP]
  have HF : Hid (P (.returned (.int .i64 (rcF n))) w) := by rw [hP]; exact ⟨rfl, rfl⟩
  clear hP
  unfold rcF at HF
  by_cases h : n < 1
  · rw [if_pos h] at HF
    go_enter Try.func13, Try.ntmps13
    go_wp2_with fail
    first | exact HF.out | (go_ret; exact HF.out)
  · rw [if_neg h] at HF
    have q1 : 0 ≤ (n - 1).tdiv 512 ∧ (n - 1).tdiv 512 ≤ 9223372036854775806 := by rw [Int.tdiv_eq_ediv_of_nonneg (by omega)]; omega
    go_enter Try.func13, Try.ntmps13
    go_wp2_with fail
    first | exact HF.out | (go_ret; exact HF.out)
set_option maxHeartbeats 1000000 in
set_option maxRecDepth 100000 in
theorem pad_any (n : Int) (w : World) (h1 : -9223372036854775808 ≤ n) (h2 : n ≤ 9223372036854775807) : Calls Try.prog 14 #[.int .i64 n] w fun e w' => e = .returned (.int .i64 (pdF n)) ∧ w = w' := by
  obtain ⟨P, hP⟩ : ∃ P : Ending → World → Prop, P = fun e w' => e = .returned (.int .i64 (pdF n)) ∧ w = w' := ⟨_, rfl⟩
  rw [← hP]
  have HF : Hid (P (.returned (.int .i64 (pdF n))) w) := by rw [hP]; exact ⟨rfl, rfl⟩
  clear hP
  unfold pdF at HF
  by_cases h : n < 1
  · rw [if_pos h] at HF
    go_enter Try.func14, Try.ntmps14
    go_wp2_with fail
    first | exact HF.out | (go_ret; exact HF.out)
  · rw [if_neg h] at HF
    go_enter Try.func14, Try.ntmps14
    go_wp2_with fail
    exact HF.out
set_option maxHeartbeats 1000000 in
set_option maxRecDepth 100000 in
theorem rpad_any (n : Int) (w : World) (h1 : -9223372036854775808 ≤ n) (h2 : n ≤ 9223372036854775807) : Calls Try.prog 15 #[.int .i64 n] w fun e w' => e = .returned (.int .i64 (pdF n)) ∧ w = w' := by
  obtain ⟨P, hP⟩ : ∃ P : Ending → World → Prop, P = fun e w' => e = .returned (.int .i64 (pdF n)) ∧ w = w' := ⟨_, rfl⟩
  rw [← hP]
  have HF : Hid (P (.returned (.int .i64 (pdF n))) w) := by rw [hP]; exact ⟨rfl, rfl⟩
  clear hP
  unfold pdF at HF
  by_cases h : n < 1
  · rw [if_pos h] at HF
    go_enter Try.func15, Try.ntmps15
    go_wp2_with fail
    first | exact HF.out | (go_ret; exact HF.out)
  · rw [if_neg h] at HF
    have q4 : -(n % 512) % 512 = 511 - (n - 1) % 512 := by omega
    rw [← q4] at HF
    clear q4
    go_enter Try.func15, Try.ntmps15
    go_wp2_with fail
    exact HF.out
/-! ### HeaderCuts -/
set_option maxHeartbeats 4000000 in
set_option maxRecDepth 100000 in
theorem cuts_walk (s : ByteArray) (n : Int) (w : World) (hs : s.size ≤ 140737488351232) (h1 : -9223372036854775808 ≤ n) (h2 : n ≤ 9223372036854775807) :
    Calls Try.prog 4 #[.string s, .int .i64 n] w fun e w' => e = .returned (.bool true) ∧ Nw w w' := by
  obtain ⟨P, hP⟩ : ∃ P : Ending → World → Prop, P = fun e w' => e = .returned (.bool true) ∧ Nw w w' := ⟨_, rfl⟩
  rw [← hP]
  have HF : Hid (∀ W, Nw w W → P (.returned (.bool true)) W) := fun W hW => by rw [hP]; exact ⟨rfl, hW⟩
  clear hP
  obtain ⟨a, b, z, hv⟩ : ∃ a b z, cutV s = .tuple #[.string a, .string b, .int .i64 z] := by
    unfold cutV
    split
    · exact ⟨_, _, _, rfl⟩
    · split <;> exact ⟨_, _, _, rfl⟩
  have HC := tHid (fun V => cut_any s V hs)
  have HX := tHid (fun V => rcut_any s V hs)
  rw [hv] at HC HX
  have HR := tHid (fun V => records_any n V h1 h2)
  have HRX := tHid (fun V => rrecords_any n V h1 h2)
  have HP := tHid (fun V => pad_any n V h1 h2)
  have HPX := tHid (fun V => rpad_any n V h1 h2)
  have HR5 : Hid (∀ V, Calls Try.prog 12 #[.int .i64 513] V fun e w' => e = .returned (.int .i64 2) ∧ V = w') := fun V => records_any 513 V (by decide) (by decide)
  have e1 : (a.toList == a.toList) = true := by simp
  have e2 : (b.toList == b.toList) = true := by simp
  generalize rcF n = r at *
  generalize pdF n = p at *
  clear hv
  go_enter Try.func4, Try.ntmps4
  go_wp2_with (first
    | (go_at_call 10; with_reducible refine (HC.out _).mono ?_; rintro e w1 ⟨rfl, K1⟩)
    | (go_at_call 11; with_reducible refine (HX.out _).mono ?_; rintro e w2 ⟨rfl, K2⟩)
    | (go_at_call 12; with_reducible refine (HR.out _).mono ?_; rintro e w3 ⟨rfl, rfl⟩)
    | (go_at_call 12; with_reducible refine (HR5.out _).mono ?_; rintro e w3 ⟨rfl, rfl⟩)
    | (go_at_call 13; with_reducible refine (HRX.out _).mono ?_; rintro e w3 ⟨rfl, rfl⟩)
    | (go_at_call 14; with_reducible refine (HP.out _).mono ?_; rintro e w3 ⟨rfl, rfl⟩)
    | (go_at_call 15; with_reducible refine (HPX.out _).mono ?_; rintro e w3 ⟨rfl, rfl⟩))
  exact HF.out _ (K1.trans K2)
end Go.Proofs.Ytoegbaenheeogaa

import Derived.Test.YtoegbaenheeogaaWxc
import Derived.Test.YtoegbaenheeogaaNhA
namespace Go.Proofs.Ytoegbaenheeogaa
open Go.RowKit
set_option linter.unusedVariables false
/-! ### Name, HeaderWhole -/
def sl1 : ByteArray := ⟨#[47]⟩
def nmF (h : Hr) : ByteArray := if h.pfx = eS then h.name else h.pfx ++ sl1 ++ h.name
theorem str_beq (a b : ByteArray) : (a.toList == b.toList) = decide (a = b) := by
  rw [ByteArray.toList_eq, ByteArray.toList_eq]
  by_cases h : a = b
  · subst h; simp
  · rw [decide_eq_false h, beq_eq_false_iff_ne]
    intro e
    apply h
    apply ByteArray.ext
    exact Array.toList_inj.1 e
theorem eS_beq (s : ByteArray) : s.toList.isEmpty = decide (s = eS) := by
  have := str_beq s eS
  rw [← this, ByteArray.toList_eq, ByteArray.toList_eq]
  show _ = (s.data.toList == [])
  cases s.data.toList <;> rfl
set_option maxHeartbeats 1000000 in
set_option maxRecDepth 100000 in
theorem name_any (h : Hr) (w : World) (hs : h.pfx.size + 1 + h.name.size ≤ 140737488351232) : Calls Try.prog 8 #[.agg h.C] w fun e w' => e = .returned (.string (nmF h)) ∧ Nw w w' := by
  obtain ⟨P, hP⟩ : ∃ P : Ending → World → Prop, P = fun e w' => e = .returned (.string (nmF h)) ∧ Nw w w' := ⟨_, rfl⟩
  rw [← hP]
  have HF : Hid (∀ W, Nw w W → P (.returned (.string (nmF h))) W) := fun W hW => by rw [hP]; exact ⟨rfl, hW⟩
  clear hP
  unfold nmF at HF
  have hb := eS_beq h.pfx
  unfold Hr.C
  by_cases h1 : h.pfx = eS
  · rw [if_pos h1] at HF
    rw [decide_eq_true h1] at hb
    clear h1
    generalize h.pfx = p at *
    generalize h.name = m at *
    go_enter Try.func8, Try.ntmps8
    go_wp2_with fail
    exact HF.out _ ((Fr.refl _ _).alloc _)
  · rw [if_neg h1] at HF
    rw [decide_eq_false h1] at hb
    clear h1
    generalize h.pfx = p at *
    generalize h.name = m at *
    go_enter Try.func8, Try.ntmps8
    go_wp2_with fail
    exact HF.out _ ((Fr.refl _ _).alloc _)
/-- A name that was cut is whole again. -/
theorem ext_whole (s : ByteArray) (p : Nat) (h : isSl s p) : s.extract 0 p ++ sl1 ++ s.extract (p + 1) s.size = s := by
  have hp := isSl_lt h
  apply ByteArray.ext
  apply Array.toList_inj.1
  have e : s.data.toList = s.data.toList.take p ++ (47 :: s.data.toList.drop (p + 1)) := by
    obtain ⟨hk, e47⟩ := List.getElem?_eq_some_iff.1 h
    rw [← e47, ← List.drop_eq_getElem_cons hk, List.take_append_drop]
  have hsz : s.size = s.data.size := rfl
  simp only [ByteArray.data_append, ByteArray.data_extract, Array.toList_append, Array.toList_extract, List.extract_eq_take_drop, sl1, Nat.sub_zero, List.drop_zero, hsz]
  rw [List.take_of_length_le (l := s.data.toList.drop (p + 1)) (by rw [List.length_drop, Array.length_toList]; omega), List.append_assoc]
  exact e.symm
theorem ext_size (s : ByteArray) (a b : Nat) (h : b ≤ s.size) : (s.extract a b).size = b - a := by
  rw [ByteArray.size_extract]; omega
theorem ext_ne (s : ByteArray) (p : Nat) (h1 : 1 ≤ p) (h2 : p ≤ s.size) : s.extract 0 p ≠ eS := fun e => by
  have := congrArg ByteArray.size e
  rw [ext_size s 0 p h2] at this
  have : p - 0 = 0 := this
  omega
set_option maxHeartbeats 4000000 in
set_option maxRecDepth 100000 in
theorem whole_walk (s : ByteArray) (w : World) (hs : s.size ≤ 140737488351232) :
    Calls Try.prog 5 #[.string s] w fun e w' => e = .returned (.bool true) ∧ Nw w w' := by
  obtain ⟨P, hP⟩ : ∃ P : Ending → World → Prop, P = fun e w' => e = .returned (.bool true) ∧ Nw w w' := ⟨_, rfl⟩
  rw [← hP]
  have HF : Hid (∀ W, Nw w W → P (.returned (.bool true)) W) := fun W hW => by rw [hP]; exact ⟨rfl, hW⟩
  clear hP
  have HC := tHid (cut_any s w hs)
  have HN : Hid (∀ n p V, p.size + 1 + n.size ≤ 140737488351232 → Calls Try.prog 8 #[.agg #[.int .i64 0, .string n, .string p, .int .i64 0, .int .i64 0, .int .i64 0, .int .i64 0, .int .i64 0, .int .u8 0, .string ⟨#[]⟩, .string ⟨#[]⟩, .string ⟨#[]⟩, .int .i64 0, .int .i64 0]] V fun e w' => e = .returned (.string (if p = eS then n else p ++ sl1 ++ n)) ∧ Hid (Nw V w')) := fun n p V h => name_any ⟨0, n, p, 0, 0, 0, 0, 0, 0#8, eS, eS, eS, 0, 0⟩ V h
  have ess : (s.toList == s.toList) = true := by simp
  by_cases h1 : s.size ≤ 100
  · rw [cutV_short s h1] at HC
    have HN2 := tHid (fun V => HN.out s ⟨#[]⟩ V (by show 0 + 1 + s.size ≤ _; omega))
    rw [if_pos (show (⟨#[]⟩ : ByteArray) = eS from rfl)] at HN2
    have d1 : (s.size : Int) ≤ 100 := by omega
    clear HN h1
    go_enter Try.func5, Try.ntmps5
    go_wp2_with (first
      | (go_at_call 10; with_reducible refine HC.out.mono ?_; rintro e w1 ⟨rfl, K1⟩)
      | (go_at_call 8; with_reducible refine (HN2.out _).mono ?_; rintro e w2 ⟨rfl, K2⟩))
    exact HF.out _ (K1.trans K2.out)
  · rcases cut_ge s with hc | ⟨p, hc⟩
    · rw [cutV_no s h1 hc] at HC
      have HNO := tHid (cut_none s hc)
      have d1 : (100 : Int) < (s.size : Int) := by omega
      clear HN h1 hc ess
      go_enter Try.func5, Try.ntmps5
      go_upto_region 4 with (first
        | (go_at_call 10; with_reducible refine HC.out.mono ?_; rintro e w1 ⟨rfl, K1⟩))
      have HK := tHid K1
      clear K1 HC
      go_loopg [6] 200 (fun kx v wr => ∃ I : Nat, 1 ≤ I ∧ I ≤ 156 ∧ 156 ≤ I + kx ∧ v = .int .i64 (I : Int) ∧ wr = w1)
      case atStart => exact ⟨1, by omega, by omega, by omega, rfl, rfl⟩
      case round =>
        obtain ⟨I, hI1, hI, hkx, rfl, hw⟩ := hrel
        have hw' := hw.symm
        subst hw'
        clear hw
        have HFE := tHid (HF.out _ HK.out)
        by_cases hlt : I < s.size
        · have hlt2 : (I : Int) < (s.size : Int) := by omega
          by_cases h155 : I ≤ 155
          · have h155' : (I : Int) ≤ 155 := by omega
            have hno := HNO.out I
            obtain ⟨x, hx⟩ : ∃ x : UInt8, s[I]'hlt = x := ⟨_, rfl⟩
            have hsl := sl_at s I hlt
            rw [hx] at hsl
            have hxx := u8_47 x
            by_cases h47 : x = 47
            · rw [decide_eq_true h47] at hxx
              have hb : ¬ (1 ≤ (s.size : Int) - (I : Int) - 1 ∧ (s.size : Int) - (I : Int) - 1 ≤ 100) := fun q => hno ⟨hI1, h155, hsl.2 h47, by omega, by omega⟩
              clear hno hsl h47 HF
              by_cases hb1 : 1 ≤ (s.size : Int) - (I : Int) - 1
              · have hb2 : ¬ (s.size : Int) - (I : Int) - 1 ≤ 100 := fun q => hb ⟨hb1, q⟩
                clear hb
                go_wp2_with fail
                go_roundg (156 - (I + 1))
                case measure => omega
                case rel => exact ⟨I + 1, by omega, by omega, by omega, by first | rfl | (congr 1), rfl⟩
              · clear hb
                go_wp2_with fail
                go_roundg (156 - (I + 1))
                case measure => omega
                case rel => exact ⟨I + 1, by omega, by omega, by omega, by first | rfl | (congr 1), rfl⟩
            · rw [decide_eq_false h47] at hxx
              clear hno hsl h47 HF
              go_wp2_with fail
              go_roundg (156 - (I + 1))
              case measure => omega
              case rel => exact ⟨I + 1, by omega, by omega, by omega, by first | rfl | (congr 1), rfl⟩
          · have h155' : ¬ (I : Int) ≤ 155 := by omega
            clear HF
            go_wp2_with fail
            exact HFE.out
        · have hlt2 : ¬ (I : Int) < (s.size : Int) := by omega
          clear HF
          go_wp2_with fail
          exact HFE.out
    · rw [cutV_at s h1 p hc] at HC
      obtain ⟨q1, q2, q3, q4, q5⟩ := cut_cond s p hc
      have z1 : (s.extract 0 p).size = p := by rw [ext_size s 0 p (by omega)]; omega
      have z2 : (s.extract (p + 1) s.size).size = s.size - (p + 1) := ext_size s (p + 1) s.size (Nat.le_refl _)
      have HN2 := tHid (fun V => HN.out (s.extract (p + 1) s.size) (s.extract 0 p) V (by omega))
      rw [if_neg (ext_ne s p q1 (by omega)), ext_whole s p q3] at HN2
      generalize s.extract 0 p = A at *
      generalize s.extract (p + 1) s.size = B at *
      have y1 : (A.size : Int) ≤ 155 := by omega
      have y2 : (B.size : Int) ≤ 100 := by omega
      clear HN h1 hc q3 z1 z2
      go_enter Try.func5, Try.ntmps5
      go_wp2_with (first
        | (go_at_call 10; with_reducible refine HC.out.mono ?_; rintro e w1 ⟨rfl, K1⟩)
        | (go_at_call 8; with_reducible refine (HN2.out _).mono ?_; rintro e w2 ⟨rfl, K2⟩))
      exact HF.out _ (K1.trans K2.out)
end Go.Proofs.Ytoegbaenheeogaa

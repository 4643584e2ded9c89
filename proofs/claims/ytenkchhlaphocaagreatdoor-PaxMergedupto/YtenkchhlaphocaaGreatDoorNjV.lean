import Derived.Test.YtenkchhlaphocaaGreatDoorNjU
import Derived.Test.YtenkchhlaphocaaGreatDoorNjM
namespace Go.Proofs.YtenkchhlaphocaaGreatDoor
open Go.RowKit
set_option linter.unusedVariables false
/-! ### Times -/
theorem eq_45 (c : By) : ((str [c]).toList == ([45] : List UInt8)) = decide (c = 45#8) := by
  have := str_beq [c] [45#8]
  rw [show (str [45#8]).toList = [45] from str_toList _] at this
  rw [this]
  by_cases h : c = 45#8
  · subst h; rfl
  · rw [decide_eq_false h, decide_eq_false (by intro e; injection e with e; exact h e)]
set_option maxHeartbeats 4000000 in
set_option maxRecDepth 100000 in
theorem hp45_any (l : Bs) (w : World) (hs : l.length ≤ 140737488351232) : Calls Tryz.prog 52 #[.string (str l), .string ⟨#[45]⟩] w fun e w' => e = .returned (.bool (minusV l)) ∧ w = w' := by
  obtain ⟨P, hP⟩ : ∃ P : Ending → World → Prop, P = fun e w' => e = .returned (.bool (minusV l)) ∧ w = w' := ⟨_, rfl⟩
  rw [← hP]
  cases l with
  | nil =>
    have HF : Hid (P (.returned (.bool false)) w) := by rw [hP]; exact ⟨rfl, rfl⟩
    clear hP
    show Calls Tryz.prog 52 #[.string ⟨#[]⟩, .string ⟨#[45]⟩] w P
    go_enter Tryz.func52, Tryz.ntmps52
    go_wp2_with fail
    exact HF.out
  | cons c r =>
    have hm : minusV (c :: r) = decide (c = 45#8) := by unfold minusV; simp
    have HF : Hid (P (.returned (.bool (decide (c = 45#8)))) w) := by rw [hP, hm]; exact ⟨rfl, rfl⟩
    have x1 : (str (c :: r)).extract 0 1 = str [c] := str_pre [c] r
    have hsz := str_size (c :: r)
    have hb := eq_45 c
    rw [List.length_cons] at hsz hs
    have z1 : 1 ≤ (str (c :: r)).size := by omega
    have z2 : (1 : Int) ≤ ((str (c :: r)).size : Int) := by omega
    have z3 : decide ((1 : Int) ≤ ((str (c :: r)).size : Int)) = true := decide_eq_true z2
    have z4 : decide (1 ≤ (str (c :: r)).size) = true := decide_eq_true z1
    have z5 : (str (c :: r)).size ≤ 140737488351232 := by omega
    clear hP hsz hs hm
    generalize str (c :: r) = s at *
    generalize str [c] = sp at *
    generalize decide (c = 45#8) = B at *
    go_enter Tryz.func52, Tryz.ntmps52
    go_wp2_with fail
    exact HF.out
set_option maxHeartbeats 4000000 in
set_option maxRecDepth 100000 in
theorem slcp_any (l : Bs) (w : World) (hs : l.length ≤ 140737488351232) : Calls Tryz.prog 38 #[.string (str l), .string ⟨#[45]⟩] w fun e w' => e = .returned (.tuple #[.string (str (restV l)), .bool (minusV l)]) ∧ w = w' := by
  obtain ⟨P, hP⟩ : ∃ P : Ending → World → Prop, P = fun e w' => e = .returned (.tuple #[.string (str (restV l)), .bool (minusV l)]) ∧ w = w' := ⟨_, rfl⟩
  rw [← hP]
  have HJ := tHid (hp45_any l w hs)
  cases hm : minusV l with
  | true =>
    cases l with
    | nil => cases hm
    | cons c r =>
      have hr : restV (c :: r) = r := by unfold restV; rw [hm]; rfl
      have HF : Hid (P (.returned (.tuple #[.string (str r), .bool true])) w) := by rw [hP, hr, hm]; exact ⟨rfl, rfl⟩
      have hx := str_tail c r
      have hsz := str_size (c :: r)
      rw [List.length_cons] at hsz hs
      have z2 : (1 : Int) ≤ ((str (c :: r)).size : Int) := by omega
      have z3 : 1 ≤ (str (c :: r)).size := by omega
      have z5 : (str (c :: r)).size ≤ 140737488351232 := by omega
      rw [hm] at HJ
      clear hP hm hr hs hsz
      generalize str (c :: r) = s at *
      generalize str r = t at *
      go_enter Tryz.func38, Tryz.ntmps38
      go_wp2_with (first | (go_at_call 52; with_reducible refine HJ.out.mono ?_; rintro e w1 ⟨rfl, rfl⟩))
      first | exact HF.out | (go_ret; exact HF.out)
  | false =>
    have hr : restV l = l := by unfold restV; rw [hm]; rfl
    have HF : Hid (P (.returned (.tuple #[.string (str l), .bool false])) w) := by rw [hP, hr, hm]; exact ⟨rfl, rfl⟩
    rw [hm] at HJ
    clear hP hm hr
    generalize str l = s at *
    go_enter Tryz.func38, Tryz.ntmps38
    go_wp2_with (first | (go_at_call 52; with_reducible refine HJ.out.mono ?_; rintro e w1 ⟨rfl, rfl⟩))
    first | exact HF.out | (go_ret; exact HF.out)
set_option maxHeartbeats 4000000 in
set_option maxRecDepth 100000 in
theorem cp_any (l : Bs) (w : World) (hs : l.length ≤ 140737488351232) : Calls Tryz.prog 21 #[.string (str l), .string ⟨#[45]⟩] w fun e w' => e = .returned (.tuple #[.string (str (restV l)), .bool (minusV l)]) ∧ w = w' := by
  obtain ⟨P, hP⟩ : ∃ P : Ending → World → Prop, P = fun e w' => e = .returned (.tuple #[.string (str (restV l)), .bool (minusV l)]) ∧ w = w' := ⟨_, rfl⟩
  rw [← hP]
  have HJ := tHid (slcp_any l w hs)
  have HF : Hid (P (.returned (.tuple #[.string (str (restV l)), .bool (minusV l)])) w) := by rw [hP]; exact ⟨rfl, rfl⟩
  clear hP
  generalize str (restV l) = t at *
  generalize str l = s at *
  generalize minusV l = B at *
  go_enter Tryz.func21, Tryz.ntmps21
  go_wp2_with (first | (go_at_call 38; with_reducible refine HJ.out.mono ?_; rintro e w1 ⟨rfl, rfl⟩))
  first | exact HF.out | (go_ret; exact HF.out)
theorem trimZ_snoc (l : Bs) (c : By) : trimZ (l ++ [c]) = if c = 48#8 then trimZ l else l ++ [c] := by
  induction l with
  | nil =>
    by_cases h : c = 48#8
    · simp [trimZ, h]
    · simp [trimZ, h]
  | cons x r ih =>
    rw [List.cons_append, trimZ, ih]
    by_cases h : c = 48#8
    · rw [if_pos h, if_pos h, trimZ]
    · rw [if_neg h, if_neg h, if_neg (by simp)]
theorem str_last (l : Bs) (c : By) : (str (l ++ [c])).extract 0 l.length = str l := str_pre l [c]
set_option maxHeartbeats 4000000 in
set_option maxRecDepth 100000 in
theorem trb_any (l : Bs) (hl : l.length ≤ 140737488351232) (w : World) : Calls Tryz.prog 65 #[.string (str l), .int .u8 48] w fun e w' => e = .returned (.string (str (trimZ l))) ∧ w = w' := by
  obtain ⟨P, hP⟩ : ∃ P : Ending → World → Prop, P = fun e w' => e = .returned (.string (str (trimZ l))) ∧ w = w' := ⟨_, rfl⟩
  rw [← hP]
  have HF : Hid (∀ m, trimZ l = m → P (.returned (.string (str m))) w) := fun m hm => by rw [hP, hm]; exact ⟨rfl, rfl⟩
  clear hP
  go_enter Tryz.func65, Tryz.ntmps65
  go_upto_region 1 with fail
  go_loopg [0] l.length (fun kx v wr => ∃ l' : Bs, l'.length ≤ kx ∧ l'.length ≤ 140737488351232 ∧ v = .string (str l') ∧ wr = w ∧ Hid (trimZ l = trimZ l'))
  case atStart => exact ⟨l, Nat.le_refl _, hl, rfl, rfl, rfl⟩
  case round =>
    obtain ⟨l', hkx, hl', rfl, hw, HD⟩ := hrel
    have hw' := hw.symm
    subst hw'
    clear hw
    by_cases h0 : l' = []
    · subst h0
      have HF2 := tHid (HF.out [] HD.out)
      clear HF HD
      have hsz : (str []).size = 0 := rfl
      generalize str [] = s at *
      go_wp2_with fail
      first | exact HF2.out | (go_ret; exact HF2.out)
    · obtain ⟨m, c, rfl⟩ : ∃ m c, l' = m ++ [c] := ⟨l'.dropLast, l'.getLast h0, (List.dropLast_concat_getLast h0).symm⟩
      have hd := HD.out
      rw [trimZ_snoc] at hd
      have hsz := str_size (m ++ [c])
      rw [List.length_append, List.length_singleton] at hsz hkx hl'
      have hx := str_last m c
      have hq := nth_eq c 48 (by decide)
      obtain ⟨K, hK⟩ : ∃ K, m.length = K := ⟨_, rfl⟩
      have hg : ∀ h : K < (str (m ++ [c])).size, ((str (m ++ [c]))[K]'h).toNat = c.toNat := by
        intro h
        subst hK
        rw [str_get (m ++ [c]) m.length h, List.getElem_append_right (Nat.le_refl _)]
        simp
      have z1 : (0 : Int) < ((str (m ++ [c])).size : Int) := by omega
      have z2 : ((str (m ++ [c])).size : Int) - 1 = (K : Int) := by omega
      have z3 : (K : Int) < ((str (m ++ [c])).size : Int) := by omega
      have z4 : K < (str (m ++ [c])).size := by omega
      have z5 : (K : Int) ≤ ((str (m ++ [c])).size : Int) := by omega
      have z6 : (str (m ++ [c])).size ≤ 140737488351232 := by omega
      by_cases hc : c = 48#8
      · rw [if_pos hc] at hd
        rw [decide_eq_true hc] at hq
        have HD2 : Hid (trimZ l = trimZ m) := hd
        clear HF HD hd hc h0
        rw [hK] at hx
        have hKl : K ≤ 140737488351232 := by omega
        have hkx2 : K < gk := by omega
        have HK := tHid hK
        clear hK hsz hkx
        generalize str (m ++ [c]) = s at *
        generalize c.toNat = y at *
        go_wp2_with fail
        go_roundg K
        case measure => omega
        case rel => exact ⟨m, by rw [HK.out]; exact Nat.le_refl _, by rw [HK.out]; exact hKl, by first | rfl | (rw [← hx]), rfl, HD2⟩
      · rw [if_neg hc] at hd
        rw [decide_eq_false hc] at hq
        have HF2 := tHid (HF.out (m ++ [c]) hd)
        clear HF HD hd hc h0
        rw [hK] at hx
        clear hK hsz hkx
        generalize str (m ++ [c]) = s at *
        generalize c.toNat = y at *
        go_wp2_with fail
        first | exact HF2.out | (go_ret; exact HF2.out)
set_option maxHeartbeats 4000000 in
set_option maxRecDepth 100000 in
theorem tr_any (l : Bs) (hl : l.length ≤ 140737488351232) (w : World) : Calls Tryz.prog 44 #[.string (str l), .string ⟨#[48]⟩] w fun e w' => e = .returned (.string (str (trimZ l))) ∧ w = w' := by
  obtain ⟨P, hP⟩ : ∃ P : Ending → World → Prop, P = fun e w' => e = .returned (.string (str (trimZ l))) ∧ w = w' := ⟨_, rfl⟩
  rw [← hP]
  have HF : Hid (P (.returned (.string (str (trimZ l)))) w) := by rw [hP]; exact ⟨rfl, rfl⟩
  clear hP
  have HJ := tHid (trb_any l hl w)
  have b0 := str_emp l
  have b1 := str_emp2 l
  by_cases e0 : l = []
  · subst e0
    have HF2 : Hid (P (.returned (.string (str []))) w) := HF
    rw [decide_eq_true rfl] at b0 b1
    clear HF HJ
    generalize str [] = s at *
    go_enter Tryz.func44, Tryz.ntmps44
    go_wp2_with fail
    first | exact HF2.out | (go_ret; exact HF2.out)
  · rw [decide_eq_false e0] at b0 b1
    clear e0
    obtain ⟨cs, hcs⟩ : ∃ cs : ByteArray, cs = ⟨#[48]⟩ := ⟨_, rfl⟩
    rw [← hcs]
    have hsz : cs.size = 1 := by rw [hcs]; rfl
    have q0 : ∀ h, (cs[0]'h).toNat = 48 := by subst hcs; intro h; rfl
    have q1 : (cs.toList == ([] : List UInt8)) = false := by rw [hcs]; decide +kernel
    have q2 : cs.toList.isEmpty = false := by rw [hcs]; decide +kernel
    clear hcs
    generalize str (trimZ l) = t at *
    generalize str l = s at *
    go_enter Tryz.func44, Tryz.ntmps44
    go_wp2_with (first | (go_at_call 65; with_reducible refine HJ.out.mono ?_; rintro e w1 ⟨rfl, rfl⟩))
    first | exact HF.out | (go_ret; exact HF.out)
end Go.Proofs.YtenkchhlaphocaaGreatDoor

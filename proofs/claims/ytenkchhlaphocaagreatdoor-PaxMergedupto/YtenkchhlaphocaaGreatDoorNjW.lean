import Derived.Test.YtenkchhlaphocaaGreatDoorNjV
namespace Go.Proofs.YtenkchhlaphocaaGreatDoor
open Go.RowKit
set_option linter.unusedVariables false
/-! ### nanoOf, behindDot, PutTime, Time -/
theorem pad_at (re : Bs) (I : Nat) (hI : I < 9) : val 0 ((re ++ List.replicate 9 48#8).take (I + 1)) = val 0 ((re ++ List.replicate 9 48#8).take I) * 10 + (if h : I < re.length then (re[I]'h).toNat - 48 else 0) := by
  have hl : I < (re ++ List.replicate 9 48#8).length := by rw [List.length_append, List.length_replicate]; omega
  rw [List.take_add_one, List.getElem?_eq_getElem hl, Option.toList_some, val_app]
  show val 0 (List.take I _) * 10 + (_ - 48) = _
  congr 1
  by_cases h : I < re.length
  · rw [dif_pos h, List.getElem_append_left h]
  · rw [dif_neg h, List.getElem_append_right (by omega), List.getElem_replicate]
    rfl
set_option maxHeartbeats 4000000 in
set_option maxRecDepth 100000 in
theorem nano_any (re : Bs) (hd : ∀ c ∈ re, isD c) (hl : re.length ≤ 140737488351232) (w : World) : Calls Tryz.prog 25 #[.string (str re)] w fun e w' => e = .returned (.int .i32 (nanoV re : Nat)) ∧ w = w' := by
  obtain ⟨P, hP⟩ : ∃ P : Ending → World → Prop, P = fun e w' => e = .returned (.int .i32 (nanoV re : Nat)) ∧ w = w' := ⟨_, rfl⟩
  rw [← hP]
  have HF : Hid (P (.returned (.int .i32 (nanoV re : Nat))) w) := by rw [hP]; exact ⟨rfl, rfl⟩
  clear hP
  have hsz := str_size re
  have hget : Hid (∀ j (h : j < (str re).size) (h' : j < re.length), ((str re)[j]'h).toNat = (re[j]'h').toNat) := fun j h h' => str_get re j h
  have HD := tHid hd
  clear hd
  generalize str re = s at *
  go_enter Tryz.func25, Tryz.ntmps25
  go_upto_region 3 with fail
  go_loopg [3, 5] 9 (fun kx v i wr => ∃ (I N : Nat), I ≤ 9 ∧ 9 - I ≤ kx ∧ i = .int .i64 I ∧ v = .int .i32 N ∧ N < 1000000000 ∧ wr = w ∧ Hid (N = val 0 ((re ++ List.replicate 9 48#8).take I) ∧ N < 10 ^ I))
  case atStart => exact ⟨0, 0, by omega, by omega, rfl, rfl, by omega, rfl, rfl, by decide⟩
  case round =>
    obtain ⟨I, N, hI, hkx, rfl, rfl, hN, hw, HV⟩ := hrel
    have hw' := hw.symm
    subst hw'
    clear hw
    obtain ⟨hv, hp⟩ := HV.out
    by_cases hlt : I < 9
    · have hlt' : (I : Int) < 9 := by omega
      have hpa := pad_at re I hlt
      rw [← hv] at hpa
      have hps : 10 ^ (I + 1) = 10 * 10 ^ I := by rw [Nat.pow_succ, Nat.mul_comm]
      have hp9 : 10 ^ (I + 1) ≤ 10 ^ 9 := Nat.pow_le_pow_right (by decide) (by omega)
      have hp9' : (10 : Nat) ^ 9 = 1000000000 := rfl
      by_cases hr : I < re.length
      · rw [dif_pos hr] at hpa
        have hr' : I < s.size := by omega
        have hg := hget.out I hr' hr
        have hd := HD.out _ (List.getElem_mem hr)
        unfold isD at hd
        obtain ⟨y, hy⟩ : ∃ y, (re[I]'hr).toNat = y := ⟨_, rfl⟩
        rw [hy] at hg hd hpa
        obtain ⟨z, hz⟩ : ∃ z, y - 48 = z := ⟨_, rfl⟩
        have hyz : (y : Int) - 48 = (z : Int) := by omega
        rw [hz] at hpa
        obtain ⟨T, hT⟩ : ∃ T, N * 10 = T := ⟨_, rfl⟩
        have hTi : (N : Int) * 10 = (T : Int) := by omega
        obtain ⟨M, hM⟩ : ∃ M, T + z = M := ⟨_, rfl⟩
        have hMi : (T : Int) + (z : Int) = (M : Int) := by omega
        rw [hT, hM] at hpa
        have hM9 : M < 1000000000 := by omega
        have hT9 : T < 1000000000 := by omega
        have hz9 : z ≤ 9 := by omega
        have HV2 := tHid (And.intro hpa.symm (show M < 10 ^ (I + 1) by omega))
        have hrI : (I : Int) < (re.length : Int) := by omega
        have hwz : (z : Int) ≤ 9 := by omega
        clear HF HV hv hp hpa hps hp9 hp9' hT hM hz hget HD hy hd
        go_wp2_with fail
        go_roundg (9 - (I + 1))
        case measure => omega
        case rel => exact ⟨I + 1, M, by omega, by omega, by first | rfl | (congr 1), by first | rfl | (congr 1), hM9, rfl, HV2⟩
      · rw [dif_neg hr, Nat.add_zero] at hpa
        obtain ⟨T, hT⟩ : ∃ T, N * 10 = T := ⟨_, rfl⟩
        have hTi : (N : Int) * 10 = (T : Int) := by omega
        rw [hT] at hpa
        have hT9 : T < 1000000000 := by omega
        have HV2 := tHid (And.intro hpa.symm (show T < 10 ^ (I + 1) by omega))
        have hrI : ¬ (I : Int) < (re.length : Int) := by omega
        clear HF HV hv hp hpa hps hp9 hp9' hT hget HD
        go_wp2_with fail
        go_roundg (9 - (I + 1))
        case measure => omega
        case rel => exact ⟨I + 1, T, by omega, by omega, by first | rfl | (congr 1), by first | rfl | (congr 1), hT9, rfl, HV2⟩
    · obtain rfl : I = 9 := by omega
      have HF2 : Hid (P (.returned (.int .i32 (N : Nat))) w) := by rw [hv]; exact HF.out
      clear HF HV hv hp hget HD
      go_wp2_with fail
      first | exact HF2.out | (go_ret; exact HF2.out)
theorem str_dot (l : Bs) : (⟨#[46]⟩ : ByteArray) ++ str l = str (46#8 :: l) := by
  rw [show (⟨#[46]⟩ : ByteArray) = str [46#8] from rfl, str_app]; rfl
set_option maxHeartbeats 4000000 in
set_option maxRecDepth 100000 in
theorem dot_any (n : Nat) (hn : n < 1000000000) (w : World) (hE : Env w) : Calls Tryz.prog 27 #[.int .i32 n] w fun e w' => e = .returned (.string (str (dotV n))) ∧ Nw w w' := by
  obtain ⟨P, hP⟩ : ∃ P : Ending → World → Prop, P = fun e w' => e = .returned (.string (str (dotV n))) ∧ Nw w w' := ⟨_, rfl⟩
  rw [← hP]
  have HF : Hid (∀ l V, dotV n = l → Nw w V → P (.returned (.string (str l))) V) := fun l V hl hV => by rw [hP, hl]; exact ⟨rfl, hV⟩
  clear hP
  by_cases h0 : n = 0
  · subst h0
    have HF2 : Hid (P (.returned (.string ⟨#[]⟩)) w) := HF.out [] w rfl (Fr.refl _ _)
    clear HF
    go_enter Tryz.func27, Tryz.ntmps27
    go_wp2_with fail
    first | exact HF2.out | (go_ret; exact HF2.out)
  · have h0' : ¬ ((n : Int) = 0) := by omega
    obtain ⟨N, hN⟩ : ∃ N, 1000000000 + n = N := ⟨_, rfl⟩
    have hNi : (1000000000 : Int) + (n : Int) = (N : Int) := by omega
    have HI := tHid (fmtI_any N (by omega) w hE)
    obtain ⟨d1, d2, d3, d4⟩ := dec9 n hn
    have hdot : dotV n = 46#8 :: trimZ ((dec N).drop 1) := by unfold dotV; rw [if_neg h0, hN]
    rw [hN] at d1 d3
    have HT := tHid (fun V => tr_any ((dec N).drop 1) (by omega) V)
    have hx : (str (dec N)).extract 1 (str (dec N)).size = str ((dec N).drop 1) := by
      have := str_tail 49#8 ((dec N).drop 1)
      rw [← d3] at this
      exact this
    have hsz : (str (dec N)).size = 10 := by rw [str_size, d3, List.length_cons, d1]
    have hcat := str_dot (trimZ ((dec N).drop 1))
    have htl : (trimZ ((dec N).drop 1)).length ≤ 9 := by
      obtain ⟨k, hk⟩ := trimZ_pad ((dec N).drop 1)
      have := congrArg List.length hk
      rw [List.length_append] at this
      omega
    have hts : (str (trimZ ((dec N).drop 1))).size ≤ 9 := by rw [str_size]; exact htl
    have HF2 : Hid (∀ V, Nw w V → P (.returned (.string (str (46#8 :: trimZ ((dec N).drop 1))))) V) := fun V hV => HF.out _ V hdot hV
    have hN31 : N < 2000000000 := by omega
    have hx2 : (str (dec N)).extract 1 10 = str ((dec N).drop 1) := by rw [← hsz]; exact hx
    clear HF d1 d2 d3 d4 hdot htl hN h0
    generalize str (46#8 :: trimZ ((dec N).drop 1)) = s4 at *
    generalize str (trimZ ((dec N).drop 1)) = s3 at *
    generalize str ((dec N).drop 1) = s2 at *
    generalize str (dec N) = s1 at *
    go_enter Tryz.func27, Tryz.ntmps27
    go_wp2_with (first
      | (go_at_call 43; with_reducible refine HI.out.mono ?_; rintro e w1 ⟨rfl, H1⟩; have H1 := tHid H1)
      | (go_at_call 44; with_reducible refine (HT.out _).mono ?_; rintro e w2 ⟨rfl, rfl⟩))
    first | exact HF2.out _ H1.out | (go_ret; exact HF2.out _ H1.out)
end Go.Proofs.YtenkchhlaphocaaGreatDoor

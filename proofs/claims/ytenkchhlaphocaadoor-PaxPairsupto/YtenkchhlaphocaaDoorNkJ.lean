import Derived.Test.YtenkchhlaphocaaDoorNkI
namespace Go.Proofs.YtenkchhlaphocaaDoor
open Go.RowKit
set_option linter.unusedVariables false
/-! ### The document's Number, PutNumber -/
theorem numV_bad (l : Bs) (c : By) (hm : c ∈ l) (h : ¬ isD c) : numV l = (0, 120) := by
  unfold numV
  have : allD l = false := by unfold allD; exact decide_eq_false (fun hh => h (hh c hm))
  rw [if_pos (.inr this)]
theorem take_all (l : Bs) (I : Nat) (h : I < l.length) (Q : By → Prop) (h1 : ∀ c ∈ l.take I, Q c) (h2 : Q l[I]) : ∀ c ∈ l.take (I + 1), Q c := by
  intro c hc
  rw [List.take_add_one, List.getElem?_eq_getElem h, Option.toList_some] at hc
  rcases List.mem_append.1 hc with hc | hc
  · exact h1 c hc
  · rw [List.mem_singleton] at hc
    rw [hc]; exact h2
theorem val_take (l : Bs) (I : Nat) (h : I < l.length) : val 0 (l.take (I + 1)) = val 0 (l.take I) * 10 + (l[I].toNat - 48) := by
  rw [List.take_add_one, List.getElem?_eq_getElem h, Option.toList_some, val_app]
  rfl
theorem val_take_le (l : Bs) (I : Nat) : val 0 (l.take I) ≤ val 0 l := by
  conv => rhs; rw [← List.take_append_drop I l, val_app]
  exact val_ge _ _
set_option maxHeartbeats 8000000 in
set_option maxRecDepth 100000 in
theorem rnum_any (l : Bs) (hl : l.length ≤ 140737488351232) (w : World) : Calls Tryd.prog 17 #[.string (str l)] w fun e w' => e = .returned (.tuple #[.int .i64 ((numV l).1 : Nat), .int .i64 ((numV l).2 : Nat)]) ∧ w = w' := by
  obtain ⟨P, hP⟩ : ∃ P : Ending → World → Prop, P = fun e w' => e = .returned (.tuple #[.int .i64 ((numV l).1 : Nat), .int .i64 ((numV l).2 : Nat)]) ∧ w = w' := ⟨_, rfl⟩
  rw [← hP]
  have HF : Hid (∀ x : Nat × Nat, numV l = x → P (.returned (.tuple #[.int .i64 (x.1 : Nat), .int .i64 (x.2 : Nat)])) w) := fun x hx => by rw [hP, hx]; exact ⟨rfl, rfl⟩
  clear hP
  have hsz := str_size l
  have b0 := str_emp l
  have b1 := str_emp2 l
  have hget : Hid (∀ j (h : j < (str l).size) (h' : j < l.length), ((str l)[j]'h).toNat = (l[j]'h').toNat) := fun j h h' => str_get l j h
  generalize str l = s at *
  go_enter Tryd.func17, Tryd.ntmps17
  go_upto_region 2 with fail
  go_loopg [4] l.length (fun kx v wr => ∃ I : Nat, I ≤ l.length ∧ l.length - I ≤ kx ∧ v = .int .i64 I ∧ wr = w ∧ Hid (∀ c ∈ l.take I, isD c))
  case atStart => exact ⟨0, by omega, by omega, rfl, rfl, by show ∀ c ∈ _, _; simp⟩
  case round =>
    obtain ⟨I, hI, hkx, rfl, hw, HI⟩ := hrel
    have hw' := hw.symm
    subst hw'
    clear hw
    by_cases hlt : I < l.length
    · have hlt' : I < s.size := by omega
      have hg := hget.out I hlt' hlt
      have HDG := tHid (rdig_any l[I].toNat w)
      by_cases hx : isD l[I]
      · have HI2 : Hid (∀ c ∈ l.take (I + 1), isD c) := take_all l I hlt isD HI.out hx
        unfold isD at hx
        rw [decide_eq_true hx] at HDG
        clear HF HI hx hget b0 b1
        generalize l[I].toNat = x at *
        go_wp2_with (first | (go_at_call 39; with_reducible refine HDG.out.mono ?_; rintro e w1 ⟨rfl, rfl⟩))
        go_roundg (l.length - (I + 1))
        case measure => omega
        case rel => exact ⟨I + 1, by omega, by omega, by first | rfl | (congr 1), rfl, HI2⟩
      · have HF2 : Hid (P (.returned (.tuple #[.int .i64 0, .int .i64 120])) w) := HF.out (0, 120) (numV_bad l _ (List.getElem_mem hlt) hx)
        unfold isD at hx
        rw [decide_eq_false hx] at HDG
        clear HF HI hx hget b0 b1
        generalize l[I].toNat = x at *
        go_wp2_with (first | (go_at_call 39; with_reducible refine HDG.out.mono ?_; rintro e w1 ⟨rfl, rfl⟩))
        first | exact HF2.out | (go_ret; exact HF2.out)
    · have hall := HI.out
      rw [List.take_of_length_le (by omega)] at hall
      obtain rfl : I = l.length := by omega
      by_cases e0 : l = []
      · have HF2 : Hid (P (.returned (.tuple #[.int .i64 0, .int .i64 120])) w) := HF.out (0, 120) (by unfold numV; rw [if_pos (.inl e0)])
        rw [decide_eq_true e0] at b0 b1
        clear HF HI hget
        go_wp2_with fail
        first | exact HF2.out | (go_ret; exact HF2.out)
      · rw [decide_eq_false e0] at b0 b1
        have hnn : ¬ (l = [] ∨ allD l = false) := by
          rintro (h | h)
          · exact e0 h
          · rw [(allD_iff l).2 hall] at h; cases h
        have HA := tHid hall
        clear HI hall hkx hlt
        go_upto_region 10 with fail
        go_loopg [5, 6] l.length (fun kx n v wr => ∃ I N : Nat, I ≤ l.length ∧ l.length - I ≤ kx ∧ v = .int .i64 I ∧ n = .int .i64 N ∧ N < 9223372036854775808 ∧ wr = w ∧ Hid (N = val 0 (l.take I)))
        case atStart => exact ⟨0, 0, by omega, by omega, rfl, rfl, by omega, rfl, rfl⟩
        case round =>
          obtain ⟨I, N, hI, hkx, rfl, rfl, hN, hw, HV⟩ := hrel
          have hw' := hw.symm
          subst hw'
          clear hw
          by_cases hlt : I < l.length
          · have hlt' : I < s.size := by omega
            have hg := hget.out I hlt' hlt
            have hx := HA.out _ (List.getElem_mem hlt)
            have hv := val_take l I hlt
            have hle := val_take_le l (I + 1)
            rw [← HV.out] at hv
            unfold isD at hx
            obtain ⟨y, hy⟩ : ∃ y, (l[I]'hlt).toNat = y := ⟨_, rfl⟩
            rw [hy] at hg hx hv
            obtain ⟨z, hz⟩ : ∃ z, y - 48 = z := ⟨_, rfl⟩
            have hyz : (y : Int) - 48 = (z : Int) := by omega
            have hz9 : z ≤ 9 := by omega
            rw [hz] at hv
            obtain ⟨q, hq⟩ : ∃ q : Nat, (9223372036854775807 - z) / 10 = q := ⟨_, rfl⟩
            have hqi : Int.tdiv (9223372036854775807 - (z : Int)) 10 = (q : Int) := by rw [Int.tdiv_eq_ediv_of_nonneg (by omega)]; omega
            by_cases hbig : q < N
            · have hbi : decide ((q : Int) < (N : Int)) = true := decide_eq_true (by omega)
              have HF2 : Hid (P (.returned (.tuple #[.int .i64 0, .int .i64 121])) w) := HF.out (0, 121) (by unfold numV; rw [if_neg hnn, if_pos (by omega)])
              have hqb : q ≤ 922337203685477580 := by omega
              clear HF HV hget HA hv hle hnn hq hz hx
              go_wp2_with fail
              first | exact HF2.out | (go_ret; exact HF2.out)
            · have hbi : decide ((q : Int) < (N : Int)) = false := decide_eq_false (by omega)
              obtain ⟨T, hT⟩ : ∃ T, N * 10 = T := ⟨_, rfl⟩
              have hTi : (10 : Int) * (N : Int) = (T : Int) := by omega
              obtain ⟨M, hM⟩ : ∃ M, T + z = M := ⟨_, rfl⟩
              have hMi : (T : Int) + (z : Int) = (M : Int) := by omega
              rw [hT, hM] at hv
              have hM9 : M < 9223372036854775808 := by omega
              have hT9 : T < 9223372036854775808 := by omega
              have HV2 : Hid (M = val 0 (l.take (I + 1))) := hv.symm
              have hqb : q ≤ 922337203685477580 := by omega
              clear HF HV hget HA hv hle hnn hq hz hx hT hM
              go_wp2_with fail
              go_roundg (l.length - (I + 1))
              case measure => omega
              case rel => exact ⟨I + 1, M, by omega, by omega, by first | rfl | (congr 1), rfl, hM9, rfl, HV2⟩
          · have hv := HV.out
            rw [List.take_of_length_le (by omega)] at hv
            have HF2 : Hid (P (.returned (.tuple #[.int .i64 (N : Nat), .int .i64 0])) w) := HF.out (N, 0) (by unfold numV; rw [if_neg hnn, if_neg (by omega), hv])
            obtain rfl : I = l.length := by omega
            clear HF HV hv hget HA hnn
            go_wp2_with fail
            first | exact HF2.out | (go_ret; exact HF2.out)
set_option maxHeartbeats 4000000 in
set_option maxRecDepth 100000 in
theorem rputn_any (n : Int) (h1 : -9223372036854775808 ≤ n) (h2 : n ≤ 9223372036854775807) (w : World) : Calls Tryd.prog 21 #[.int .i64 n] w fun e w' => e = .returned (.tuple #[.string (str (pnV n).1), .int .i64 ((pnV n).2 : Nat)]) ∧ Nw w w' := by
  obtain ⟨P, hP⟩ : ∃ P : Ending → World → Prop, P = fun e w' => e = .returned (.tuple #[.string (str (pnV n).1), .int .i64 ((pnV n).2 : Nat)]) ∧ Nw w w' := ⟨_, rfl⟩
  rw [← hP]
  have HF : Hid (∀ x V, pnV n = x → Nw w V → P (.returned (.tuple #[.string (str x.1), .int .i64 (x.2 : Nat)])) V) := fun x V hx hV => by rw [hP, hx]; exact ⟨rfl, hV⟩
  clear hP
  by_cases hn : n < 0
  · have HF2 : Hid (P (.returned (.tuple #[.string ⟨#[]⟩, .int .i64 1])) w) := HF.out ([], 1) w (by unfold pnV; rw [if_pos hn]) (Fr.refl _ _)
    clear HF
    go_enter Tryd.func21, Tryd.ntmps21
    go_wp2_with fail
    first | exact HF2.out | (go_ret; exact HF2.out)
  · obtain ⟨N, rfl⟩ : ∃ N : Nat, n = (N : Int) := ⟨n.toNat, by omega⟩
    have HI := tHid (rdec_any N (by omega) w)
    have HF2 : Hid (∀ V, Nw w V → P (.returned (.tuple #[.string (str (dec N)), .int .i64 0])) V) := fun V hV => HF.out (dec N, 0) V (by unfold pnV; rw [if_neg hn]; rfl) hV
    clear HF
    generalize str (dec N) = s at *
    go_enter Tryd.func21, Tryd.ntmps21
    go_wp2_with (first | (go_at_call 32; with_reducible refine HI.out.mono ?_; rintro e w1 ⟨rfl, H1⟩; have H1 := tHid H1))
    first | exact HF2.out _ H1.out | (go_ret; exact HF2.out _ H1.out)
end Go.Proofs.YtenkchhlaphocaaDoor

import Derived.Test.YtcogkhcfpgelhabGreatVfE
namespace Go.Proofs.YtcogkhcfpgelhabGreat
open Go.RowKit
set_option linter.unusedVariables false
set_option maxRecDepth 100000
variable {fb mb : Nat} {ot : Option Nat} {L : Int → Lay} {h : Hx} {q : Int → Option Pn} {cnt : Nat} {T : List Ac} {w w' : World} {X : Nat → Prop}
/-- Why there can be no entry at one of the spots. -/
def unfQ (q : Int → Option Pn) (sp : List (Int × Tx)) : Int := if sp.any (fun s => (q s.1).isNone) then 100 else if sp.any (fun s => !isDirQ q s.1) then 101 else if sp.any (fun s => !nmOk s.2) then 102 else 0
def RdP (g o : Nat) (sp : List (Int × Tx)) (w : World) : Prop := ∀ i (hi : i < sp.length), w.cell? ⟨g, o + i * 2, none⟩ = some (.int .i64 sp[i].1) ∧ w.cell? ⟨g, o + i * 2 + 1, none⟩ = some (.string (mk sp[i].2))
theorem any_upto {α : Type} (l : List α) (f : α → Bool) (I : Nat) (hI : I ≤ l.length) (h : ∀ j (hj : j < l.length), j < I → f l[j] = false) (he : I = l.length) : l.any f = false := by
  rw [List.any_eq_false]
  intro x hx
  obtain ⟨j, hj, rfl⟩ := List.getElem_of_mem hx
  rw [h j hj (by omega)]; simp
theorem any_at {α : Type} (l : List α) (f : α → Bool) (I : Nat) (hI : I < l.length) (h : f l[I] = true) : l.any f = true := List.any_eq_true.2 ⟨_, List.getElem_mem hI, h⟩
set_option maxHeartbeats 8000000 in
theorem unfit_any (H : FsH fb mb ot L h q cnt T w) (g o : Nat) (sp : List (Int × Tx)) (hsp : RdP g o sp w) (hk : ∀ s ∈ sp, I64 s.1 ∧ s.2.length ≤ 140737488351232) (c : Nat) (hc : sp.length ≤ c) (hc2 : c ≤ 1000) : Calls Tryz.prog 54 #[.pointer (some ⟨fb, 0, none⟩), .slice (some ⟨g, o, none⟩) sp.length c] w fun e w' => e = .returned (.int .i64 (unfQ q sp)) ∧ Nw w w' := by
  obtain ⟨P, hP⟩ : ∃ P : Ending → World → Prop, P = fun e w' => e = .returned (.int .i64 (unfQ q sp)) ∧ Nw w w' := ⟨_, rfl⟩
  rw [← hP]
  have HF : Hid (∀ V, Nw w V → P (.returned (.int .i64 (unfQ q sp))) V) := fun V hV => by rw [hP]; exact ⟨rfl, hV⟩
  clear hP
  have HH := tHid H
  have HSP := tHid hsp
  have HK : Hid (∀ i (hi : i < sp.length), I64 sp[i].1 ∧ sp[i].2.length ≤ 140737488351232) := fun i hi => hk _ (List.getElem_mem hi)
  have hfl := H.cs.lt
  clear H hsp hk
  obtain ⟨N, hN⟩ : ∃ N, N = sp.length := ⟨_, rfl⟩
  have HN := tHid hN
  rw [← hN] at hc ⊢
  clear hN
  go_enter Tryz.func54, Tryz.ntmps54
  go_wp2_with fail
  go_loopg [13] N (fun kx i wr => ∃ (I : Nat), I ≤ N ∧ N - I ≤ kx ∧ i = .int .i64 I ∧ Hid (Nw w wr ∧ ∀ j (hj : j < sp.length), j < I → (q sp[j].1).isNone = false))
  case atStart => exact ⟨0, by omega, by omega, rfl, Fr.refl _ _, fun j hj hj2 => by omega⟩
  case round =>
    obtain ⟨I, hI, hkx, rfl, HI⟩ := hrel
    obtain ⟨hNw, hE⟩ := HI.out
    by_cases hlt : I < N
    · have hl2 : I < sp.length := by rw [← HN.out]; exact hlt
      obtain ⟨s0, s1⟩ := HSP.out I hl2
      have x0 := hNw.cell s0
      have x1 := hNw.cell s1
      obtain ⟨V, hV⟩ : ∃ V, V = wr.alloc (.cells #[.int .i64 sp[I].1, .string (mk sp[I].2)] 110) := ⟨_, rfl⟩
      have hNV : Nw w V := by rw [hV]; exact hNw.alloc _
      have HV := HH.out.nw hNV
      have c0 := HV.cs.c0
      have b0 : V.cell? ⟨wr.heap.size, 0, none⟩ = some (.int .i64 sp[I].1) := by rw [hV]; exact (rc (nh wr _) 0 _ rfl).1
      cases hq : q sp[I].1 with
      | none =>
        have hl : ∀ n, (Instr.lookup 80 (.map (some mb)) (.int .i64 sp[I].1) false).run Tryz.prog (V.drewN n) = .ok (.pointer none) (V.drewN n) := fun n => (HV.nw ((Fr.refl _ _).drewN n)).look_none (HK.out I hl2).1 hq
        have HF2 : Hid (∀ V, Nw w V → P (.returned (.int .i64 100)) V) := fun V hV => by
          have := HF.out V hV
          unfold unfQ at this
          rw [if_pos (any_at sp _ I hl2 (by rw [hq]; rfl))] at this
          exact this
        clear HF HH HSP HK HI hNw hE HV HN hq s0 s1
        generalize sp[I].1 = ki at *
        generalize mk sp[I].2 = si at *
        go_upto_region 4 with fail
        rw [← hV]
        clear hV
        go_quiet (fail)
        go_wp2_with fail
        exact HF2.out _ (hNV.drewN _)
      | some p =>
        have hl : ∀ n, (Instr.lookup 80 (.map (some mb)) (.int .i64 sp[I].1) false).run Tryz.prog (V.drewN n) = .ok (.pointer (some ⟨(L sp[I].1).ib, 0, none⟩)) (V.drewN n) := fun n => (HV.nw ((Fr.refl _ _).drewN n)).look_some (HK.out I hl2).1 hq
        have HR : Hid (∀ V, Nw w V → Nw w V ∧ ∀ j (hj : j < sp.length), j < I + 1 → (q sp[j].1).isNone = false) := fun V hV => ⟨hV, fun j hj hj2 => by
          by_cases hj3 : j < I
          · exact hE j hj hj3
          · obtain rfl : j = I := by omega
            rw [hq]; rfl⟩
        clear HF HH HSP HK HI hNw hE HV HN hq s0 s1
        generalize (L sp[I].1).ib = ib at *
        generalize sp[I].1 = ki at *
        generalize mk sp[I].2 = si at *
        go_upto_region 4 with fail
        rw [← hV]
        clear hV
        go_quiet (fail)
        go_wp2_with fail
        go_roundg (N - (I + 1))
        case measure => omega
        case rel => exact ⟨I + 1, by omega, by omega, by first | rfl | (congr 1), HR.out _ (hNV.drewN _)⟩
    · have h100 : sp.any (fun s => (q s.1).isNone) = false := any_upto sp _ I (by rw [← HN.out]; exact hI) hE (by rw [← HN.out]; omega)
      have HF2 : Hid (∀ V, Nw w V → P (.returned (.int .i64 (if sp.any (fun s => !isDirQ q s.1) then 101 else if sp.any (fun s => !nmOk s.2) then 102 else 0))) V) := fun V hV => by
        have := HF.out V hV
        unfold unfQ at this
        rw [h100] at this
        exact this
      have HW := tHid hNw
      clear HF HI hE h100 hNw
      go_wp2_with fail
      go_loopg [28] N (fun kx i wr => ∃ (I : Nat), I ≤ N ∧ N - I ≤ kx ∧ i = .int .i64 I ∧ Hid (Nw w wr ∧ ∀ j (hj : j < sp.length), j < I → (!isDirQ q sp[j].1) = false))
      case atStart => exact ⟨0, by omega, by omega, rfl, HW.out, fun j hj hj2 => by omega⟩
      case round =>
        clear HW hlt hkx
        obtain ⟨I, hI, hkx, rfl, HI⟩ := hrel
        obtain ⟨hNw, hE⟩ := HI.out
        by_cases hlt : I < N
        · have hl2 : I < sp.length := by rw [← HN.out]; exact hlt
          obtain ⟨s0, s1⟩ := HSP.out I hl2
          have x0 := hNw.cell s0
          have x1 := hNw.cell s1
          have HC : Hid (∀ V, Nw w V → Calls Tryz.prog 44 #[.pointer (some ⟨fb, 0, none⟩), .int .i64 sp[I].1] V fun e w' => e = .returned (.bool (isDirQ q sp[I].1)) ∧ V = w') := fun V hV => isDir_any (HH.out.nw hV) _ (HK.out I hl2).1
          have HF3 : Hid (isDirQ q sp[I].1 = false → ∀ V, Nw w V → P (.returned (.int .i64 101)) V) := fun hd V hV => by
            have := HF2.out V hV
            rw [if_pos (any_at sp _ I hl2 (by rw [hd]; rfl))] at this
            exact this
          have HR : Hid (isDirQ q sp[I].1 = true → ∀ V, Nw w V → Nw w V ∧ ∀ j (hj : j < sp.length), j < I + 1 → (!isDirQ q sp[j].1) = false) := fun hd V hV => ⟨hV, fun j hj hj2 => by
            by_cases hj3 : j < I
            · exact hE j hj hj3
            · obtain rfl : j = I := by omega
              rw [hd]; rfl⟩
          have HW := tHid hNw
          clear HF2 HH HSP HK HI hNw hE HN s0 s1
          generalize isDirQ q sp[I].1 = Bd at *
          generalize sp[I].1 = ki at *
          generalize mk sp[I].2 = si at *
          cases Bd with
          | true =>
            go_wp2_with (first | (go_at_call 44; with_reducible refine (HC.out _ ?_).mono ?_; exact HW.out.alloc _; rintro e w1 ⟨rfl, rfl⟩))
            go_roundg (N - (I + 1))
            case measure => omega
            case rel => exact ⟨I + 1, by omega, by omega, by first | rfl | (congr 1), HR.out (by first | trivial | rfl) _ (HW.out.alloc _)⟩
          | false =>
            go_wp2_with (first | (go_at_call 44; with_reducible refine (HC.out _ ?_).mono ?_; exact HW.out.alloc _; rintro e w1 ⟨rfl, rfl⟩))
            exact HF3.out (by first | trivial | rfl) _ (HW.out.alloc _)
        · have h101 : sp.any (fun s => !isDirQ q s.1) = false := any_upto sp _ I (by rw [← HN.out]; exact hI) hE (by rw [← HN.out]; omega)
          have HF3 : Hid (∀ V, Nw w V → P (.returned (.int .i64 (if sp.any (fun s => !nmOk s.2) then 102 else 0))) V) := fun V hV => by
            have := HF2.out V hV
            rw [h101] at this
            exact this
          have HW := tHid hNw
          clear HF2 HI hE h101 hNw
          go_wp2_with fail
          go_loopg [40] N (fun kx i wr => ∃ (I : Nat), I ≤ N ∧ N - I ≤ kx ∧ i = .int .i64 I ∧ Hid (Nw w wr ∧ ∀ j (hj : j < sp.length), j < I → (!nmOk sp[j].2) = false))
          case atStart => exact ⟨0, by omega, by omega, rfl, HW.out, fun j hj hj2 => by omega⟩
          case round =>
            clear HW hlt hkx
            obtain ⟨I, hI, hkx, rfl, HI⟩ := hrel
            obtain ⟨hNw, hE⟩ := HI.out
            by_cases hlt : I < N
            · have hl2 : I < sp.length := by rw [← HN.out]; exact hlt
              obtain ⟨s0, s1⟩ := HSP.out I hl2
              have x0 := hNw.cell s0
              have x1 := hNw.cell s1
              have HC : Hid (∀ V, Calls Tryz.prog 75 #[.string (mk sp[I].2)] V fun e w' => e = .returned (.bool (nmOk sp[I].2)) ∧ V = w') := fun V => isName_any _ V (HK.out I hl2).2
              have HF4 : Hid (nmOk sp[I].2 = false → ∀ V, Nw w V → P (.returned (.int .i64 102)) V) := fun hd V hV => by
                have := HF3.out V hV
                rw [if_pos (any_at sp _ I hl2 (by rw [hd]; rfl))] at this
                exact this
              have HR : Hid (nmOk sp[I].2 = true → ∀ V, Nw w V → Nw w V ∧ ∀ j (hj : j < sp.length), j < I + 1 → (!nmOk sp[j].2) = false) := fun hd V hV => ⟨hV, fun j hj hj2 => by
                by_cases hj3 : j < I
                · exact hE j hj hj3
                · obtain rfl : j = I := by omega
                  rw [hd]; rfl⟩
              have HW := tHid hNw
              clear HF3 HH HSP HK HI hNw hE HN s0 s1
              generalize nmOk sp[I].2 = Bd at *
              generalize sp[I].1 = ki at *
              generalize mk sp[I].2 = si at *
              cases Bd with
              | true =>
                go_wp2_with (first | (go_at_call 75; with_reducible refine (HC.out _).mono ?_; rintro e w1 ⟨rfl, rfl⟩))
                go_roundg (N - (I + 1))
                case measure => omega
                case rel => exact ⟨I + 1, by omega, by omega, by first | rfl | (congr 1), HR.out (by first | trivial | rfl) _ (HW.out.alloc _)⟩
              | false =>
                go_wp2_with (first | (go_at_call 75; with_reducible refine (HC.out _).mono ?_; rintro e w1 ⟨rfl, rfl⟩))
                exact HF4.out (by first | trivial | rfl) _ (HW.out.alloc _)
            · have h102 : sp.any (fun s => !nmOk s.2) = false := any_upto sp _ I (by rw [← HN.out]; exact hI) hE (by rw [← HN.out]; omega)
              have HF4 : Hid (P (.returned (.int .i64 0)) wr) := by
                have := HF3.out wr hNw
                rw [h102] at this
                exact this
              clear HF3 HI hE h102 hNw HH HSP HK HN
              go_wp2_with fail
              exact HF4.out
end Go.Proofs.YtcogkhcfpgelhabGreat

import Derived.Test.YtkpkiajehclbhaaVaz
namespace Go.Proofs.Ytkpkiajehclbhaa
open Go.RowKit
set_option linter.unusedVariables false
variable {g n c ob : Nat} {xs : List Nat} {os : List Int} {w : World}
/-- What the sort stands on: the symbols, and how often each comes. -/
structure SoI (g n c ob : Nat) (os : List Int) (xs : List Nat) (w : World) : Prop where
  d : DtI g n c xs w
  o : ObI (fun k => k = g) ob os w
  each : ∀ i, i < n → xs.getD i 0 < os.length
theorem SoI.nw {w' : World} (h : SoI g n c ob os xs w) (k : Nw w w') : SoI g n c ob os xs w' := ⟨h.d.nw k, h.o.nw k, h.each⟩
theorem SoI.to {w' : World} {ys : List Nat} {a b : Nat} (h : SoI g n c ob os xs w) (k : Fr (fun k => k = g) w w') (hd : DtI g n c ys w') (hm : Mv a b xs ys) (hb : b ≤ n) : SoI g n c ob os ys w' := by
  refine ⟨hd, h.o.kept k (fun _ h => h), fun i hi => ?_⟩
  by_cases hr : a ≤ i ∧ i < b
  · obtain ⟨j, j1, j2, j3⟩ := hm.inn i hr.1 hr.2
    rw [j3]; exact h.each j (by omega)
  · rw [hm.out i (by omega)]; exact h.each i hi
theorem SoI.cmp (h : SoI g n c ob os xs w) (i j : Nat) (hi : i < n) (hj : j < n) (m : Nat) : Calls Try.prog 63 #[.int .i64 (xs.getD i 0 : Nat), .int .i64 (xs.getD j 0 : Nat), .pointer (some ⟨ob, 0, none⟩)] (w.drewN m) fun e w' => e = .returned (.int .i64 (cmpv (kof os (xs.getD i 0)) (kof os (xs.getD j 0)))) ∧ ∃ m', w' = (w.drewN m).drewN m' :=
  cmpc_any (h.o.nw ((Fr.refl _ _).drewN m)) _ _ (h.each i hi) (h.each j hj)
abbrev cmpF (ob : Nat) : Value := .func (.func 63) #[] #[.pointer (some ⟨ob, 0, none⟩)]
set_option maxHeartbeats 16000000 in
set_option maxRecDepth 100000 in
theorem insort_any (h : SoI g n c ob os xs w) (a b : Nat) (hab : a ≤ b) (hb : b ≤ n) : Calls Try.prog 71 #[.slice (some ⟨g, 0, none⟩) n c, .int .i64 a, .int .i64 b, cmpF ob] w (SwA (fun xs ys => Mv a b xs ys ∧ Srt (kof os) a b ys) g n c xs w) := by
  obtain ⟨P, hP⟩ : ∃ P : Ending → World → Prop, P = SwA (fun xs ys => Mv a b xs ys ∧ Srt (kof os) a b ys) g n c xs w := ⟨_, rfl⟩
  rw [← hP]
  obtain ⟨hc1, hc2⟩ := h.d.cap
  have hnl := h.d.nl
  have HF : Hid (∀ r V ys, Fr (fun k => k = g) w V → DtI g n c ys V → Mv a b xs ys → Srt (kof os) a b ys → P (.returned r) V) := fun r V ys h1 h2 h3 h4 => by rw [hP]; exact ⟨⟨_, rfl⟩, h1, ys, h2, h3, h4⟩
  have HI0 : Hid (∃ ys, SoI g n c ob os ys w ∧ Fr (fun k => k = g) w w ∧ Mv a b xs ys ∧ Srt (kof os) a (a + 1) ys) := ⟨xs, h, Fr.refl _ _, Mv.refl _ _ _, Srt.one _ _⟩
  clear hP h
  go_enter Try.func71, Try.ntmps71
  go_wp2
  go_loopg [8] (b - a) (fun kx i wr => ∃ (I : Nat), a + 1 ≤ I ∧ (I ≤ b ∨ I = a + 1) ∧ b - I ≤ kx ∧ i = .int .i64 I ∧ Hid (∃ ys, SoI g n c ob os ys wr ∧ Fr (fun k => k = g) w wr ∧ Mv a b xs ys ∧ Srt (kof os) a I ys))
  case atStart => exact ⟨a + 1, by omega, by omega, by omega, by first | rfl | (congr 1), HI0⟩
  case round =>
    obtain ⟨I, hI1, hI2, hkx, rfl, HI⟩ := hrel
    clear HI0
    by_cases hlt : I < b
    · have hz : (I : Int) < (b : Int) := by omega
      have HJ0 : Hid (∃ ys, SoI g n c ob os ys wr ∧ Fr (fun k => k = g) w wr ∧ Mv a b xs ys ∧ Ins (kof os) a I I ys) := by
        obtain ⟨ys, k1, k2, k3, k4⟩ := HI.out
        exact ⟨ys, k1, k2, k3, Ins.start k4⟩
      clear HI HF
      go_wp2_with fail
      go_loopg [9] I (fun kx j wr => ∃ (J : Nat), a ≤ J ∧ J ≤ I ∧ J ≤ kx ∧ j = .int .i64 J ∧ Hid (∃ ys, SoI g n c ob os ys wr ∧ Fr (fun k => k = g) w wr ∧ Mv a b xs ys ∧ Ins (kof os) a I J ys))
      case atStart => exact ⟨I, by omega, by omega, by omega, rfl, HJ0⟩
      case round =>
        clear HJ0
        obtain ⟨J, hJ1, hJ2, hkx2, rfl, HJ⟩ := hrel
        obtain ⟨ys, hS, hFr, hMv, hIns⟩ := HJ.out
        by_cases hJa : a < J
        · have hz2 : (a : Int) < (J : Int) := by omega
          obtain ⟨J', hJ'⟩ : ∃ J', J' + 1 = J := ⟨J - 1, by omega⟩
          have hJ'i : (J : Int) - 1 = (J' : Int) := by omega
          have hJn : (J : Int) < (n : Int) := by omega
          have hJ'n : (J' : Int) < (n : Int) := by omega
          obtain ⟨k1, k2⟩ := hS.d.cell J (by omega)
          obtain ⟨k3, k4⟩ := hS.d.cell J' (by omega)
          have HC : Hid (∀ m, Calls Try.prog 63 #[.int .i64 (ys.getD J 0 : Nat), .int .i64 (ys.getD J' 0 : Nat), .pointer (some ⟨ob, 0, none⟩)] (wr.drewN m) fun e w' => e = .returned (.int .i64 (cmpv (kof os (ys.getD J 0)) (kof os (ys.getD J' 0)))) ∧ ∃ m', w' = (wr.drewN m).drewN m') := fun m => hS.cmp J J' (by omega) (by omega) m
          have hcl := cmpv_lt (kof os (ys.getD J 0)) (kof os (ys.getD J' 0))
          by_cases hlt2 : kof os (ys.getD J 0) < kof os (ys.getD J' 0)
          · have HN : Hid (∀ m, ∃ ys', SoI g n c ob os ys' (((wr.drewN m).setCell ⟨g, J, none⟩ (.int .i64 (ys.getD J' 0 : Nat))).setCell ⟨g, J', none⟩ (.int .i64 (ys.getD J 0 : Nat))) ∧ Fr (fun k => k = g) w (((wr.drewN m).setCell ⟨g, J, none⟩ (.int .i64 (ys.getD J' 0 : Nat))).setCell ⟨g, J', none⟩ (.int .i64 (ys.getD J 0 : Nat))) ∧ Mv a b xs ys' ∧ Ins (kof os) a I J' ys') := fun m => by
              have hS' := hS.nw ((Fr.refl _ _).drewN m)
              obtain ⟨q1, q2⟩ := hS'.d.swap0 J J' (by omega) (by omega)
              have hl := hS.d.len
              have hm : Mv a b ys (swp2 ys J J') := Mv.swap ys (by omega) (by omega) (by omega) (by omega) (by omega)
              refine ⟨_, hS'.to q2 q1 hm hb, (hFr.drewN m).trans q2, hMv.trans hm, ?_⟩
              have := hIns.step hJa hJ2 (by omega) (by rw [show J - 1 = J' by omega]; exact hlt2)
              rw [show J - 1 = J' by omega] at this
              exact this
            have hcz := hcl.2 hlt2
            clear HJ hS hFr hMv hIns hcl hlt2
            generalize cmpv (kof os (ys.getD J 0)) (kof os (ys.getD J' 0)) = z at *
            generalize ys.getD J 0 = u at *
            generalize ys.getD J' 0 = v at *
            go_wp2_with fail
            go_quiet (first | (go_at_call 63; refine Calls.quiet_of (HC.out _)))
            go_wp2_with fail
            go_region
            go_wp2_with fail
            go_roundg J'
            case measure => omega
            case rel => exact ⟨J', by omega, by omega, by omega, by first | rfl | (congr 1), HN.out _⟩
          · have HN : Hid (∀ V, Nw wr V → ∃ ys, SoI g n c ob os ys V ∧ Fr (fun k => k = g) w V ∧ Mv a b xs ys ∧ Srt (kof os) a (I + 1) ys) := fun V hV => ⟨ys, hS.nw hV, hFr.trans hV.any, hMv, hIns.stop (.inr ⟨hJa, by rw [show J - 1 = J' by omega]; omega⟩)⟩
            have hcz : ¬ cmpv (kof os (ys.getD J 0)) (kof os (ys.getD J' 0)) < 0 := fun h => hlt2 (hcl.1 h)
            clear HJ hS hFr hMv hIns hcl hlt2 k2 k4
            generalize cmpv (kof os (ys.getD J 0)) (kof os (ys.getD J' 0)) = z at *
            generalize ys.getD J 0 = u at *
            generalize ys.getD J' 0 = v at *
            go_wp2_with fail
            go_quiet (first | (go_at_call 63; refine Calls.quiet_of (HC.out _)))
            go_wp2_with fail
            go_roundg (b - (I + 1))
            case measure => omega
            case rel => exact ⟨I + 1, by omega, by omega, by omega, by first | rfl | (congr 1), HN.out _ ((Fr.refl _ _).drewN _)⟩
        · obtain rfl : J = a := by omega
          have hd : decide ((J : Int) < (J : Int)) = false := decide_eq_false (by omega)
          have HN : Hid (∀ V, Nw wr V → ∃ ys, SoI g n c ob os ys V ∧ Fr (fun k => k = g) w V ∧ Mv J b xs ys ∧ Srt (kof os) J (I + 1) ys) := fun V hV => ⟨ys, hS.nw hV, hFr.trans hV.any, hMv, hIns.stop (.inl rfl)⟩
          clear HJ hS hFr hMv hIns
          go_wp2_with fail
          go_quiet (fail)
          go_wp2_with fail
          go_roundg (b - (I + 1))
          case measure => omega
          case rel => exact ⟨I + 1, by omega, by omega, by omega, by first | rfl | (congr 1), HN.out _ ((Fr.refl _ _).drewN _)⟩
    · have hz : ¬ (I : Int) < (b : Int) := by omega
      obtain ⟨ys, hS, hFr, hMv, hSr⟩ := HI.out
      have HF2 : Hid (∀ r, P (.returned r) wr) := fun r => HF.out r wr ys hFr hS.d hMv (hSr.mono (Nat.le_refl _) (by omega))
      clear HI hS hFr hMv hSr HF
      go_wp2_with fail
      go_end0
      exact HF2.out _
end Go.Proofs.Ytkpkiajehclbhaa

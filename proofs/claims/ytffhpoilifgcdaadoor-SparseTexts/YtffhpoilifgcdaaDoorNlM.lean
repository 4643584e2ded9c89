import Derived.Test.YtffhpoilifgcdaaDoorNlI
namespace Go.Proofs.YtffhpoilifgcdaaDoor
open Go.RowKit
set_option linter.unusedVariables false
/-! ### The document's Valid -/
set_option maxHeartbeats 8000000 in
set_option maxRecDepth 100000 in
theorem rvalid_any {X : Nat → Prop} (w : World) (a : Option Addr) (n c : Nat) (l : List Rg) (hl : SlR RG X (.slice a n c) l w) (s : Int) :
    Calls Tryd.prog 26 #[.slice a n c, .int .i64 s] w fun e w' => e = .returned (.bool (vld l s)) ∧ Nw w w' := by
  obtain ⟨P, hP⟩ : ∃ P : Ending → World → Prop, P = fun e w' => e = .returned (.bool (vld l s)) ∧ Nw w w' := ⟨_, rfl⟩
  rw [← hP]
  have HF : Hid (∀ B V, vld l s = B → Nw w V → P (.returned (.bool B)) V) := fun B V h1 h2 => by rw [hP, h1]; exact ⟨rfl, h2⟩
  clear hP
  obtain ⟨hln, k1, k2⟩ := slg_len hl
  have HI := tHid hl.inG
  clear hl
  by_cases hs : s < 0
  · have HF2 := tHid (HF.out false w (vld_neg (by omega)) (Fr.refl _ _))
    clear HF HI
    go_enter Tryd.func26, Tryd.ntmps26
    go_wp2_with fail
    first | exact HF2.out | (go_ret; exact HF2.out)
  · by_cases hn : 65536 < n
    · have HF2 := tHid (HF.out false w (vld_long (by omega)) (Fr.refl _ _))
      have hni : (65536 : Int) < (n : Int) := by omega
      clear HF HI
      go_enter Tryd.func26, Tryd.ntmps26
      go_wp2_with fail
      first | exact HF2.out | (go_ret; exact HF2.out)
    · have hni : ¬ (65536 : Int) < (n : Int) := by omega
      have HS : Hid (vld l s = vlE s 0 (l.drop 0)) := by show _ = _; rw [vld_else (by omega) (by omega)]; rfl
      have HLN := tHid hln
      clear hln
      go_enter Tryd.func26, Tryd.ntmps26
      go_upto_region 5 with fail
      go_loopg [5, 6] n (fun kx e i wr => ∃ (I : Nat) (E : Int), I ≤ n ∧ n - I ≤ kx ∧ e = .int .i64 E ∧ i = .int .i64 I ∧ Hid (Nw w wr ∧ vld l s = vlE s E (l.drop I)))
      case atStart => exact ⟨0, 0, by omega, by omega, rfl, rfl, Fr.refl _ _, HS.out⟩
      case round =>
        obtain ⟨I, E, hI, hkx, rfl, rfl, HL⟩ := hrel
        obtain ⟨hN, hE⟩ := HL.out
        by_cases hlt : I < n
        · have hlt' : I < l.length := by have := HLN.out; omega
          obtain ⟨g, o, rfl, x0, x1⟩ := HI.out wr hN I hlt'
          rw [drop_at l I hlt'] at hE
          have HFb : Hid (∀ V, Nw wr V → ¬ (E ≤ l[I].1 ∧ l[I].1 ≤ l[I].2 ∧ l[I].2 ≤ s) → P (.returned (.bool false)) V) := fun V hV hb => HF.out false V (by rw [hE, vlE_bad hb]) (hN.trans hV)
          have HG : Hid (E ≤ l[I].1 → l[I].1 ≤ l[I].2 → l[I].2 ≤ s → vld l s = vlE s l[I].2 (l.drop (I + 1))) := fun h1 h2 h3 => by rw [hE, vlE_step h1 h2 h3]
          have HN : Hid (∀ V, Nw wr V → Nw w V) := fun V hV => hN.trans hV
          clear HF HI HS HL hE hN
          generalize l[I].1 = f at *
          generalize l[I].2 = t at *
          by_cases h1 : f < E
          · have HF2 : Hid (∀ V, Nw wr V → P (.returned (.bool false)) V) := fun V hV => HFb.out V hV (by omega)
            have d1 := decide_eq_true h1
            clear HFb HG
            go_upto_region 7 with fail
            go_quiet (fail)
            go_wp2_with fail
            first | exact HF2.out _ ((Fr.refl _ _).drewN _) | (go_ret; exact HF2.out _ ((Fr.refl _ _).drewN _))
          · have d1 := decide_eq_false h1
            by_cases h2 : t < f
            · have HF2 : Hid (∀ V, Nw wr V → P (.returned (.bool false)) V) := fun V hV => HFb.out V hV (by omega)
              have d2 := decide_eq_true h2
              clear HFb HG
              go_upto_region 7 with fail
              go_quiet (fail)
              go_wp2_with fail
              first | exact HF2.out _ ((Fr.refl _ _).drewN _) | (go_ret; exact HF2.out _ ((Fr.refl _ _).drewN _))
            · have d2 := decide_eq_false h2
              by_cases h3 : s < t
              · have HF2 : Hid (∀ V, Nw wr V → P (.returned (.bool false)) V) := fun V hV => HFb.out V hV (by omega)
                have d3 := decide_eq_true h3
                clear HFb HG
                go_upto_region 7 with fail
                go_quiet (fail)
                go_wp2_with fail
                first | exact HF2.out _ ((Fr.refl _ _).drewN _) | (go_ret; exact HF2.out _ ((Fr.refl _ _).drewN _))
              · have d3 := decide_eq_false h3
                have HG2 := tHid (HG.out (by omega) (by omega) (by omega))
                clear HFb HG
                go_upto_region 7 with fail
                go_quiet (fail)
                go_wp2_with fail
                go_roundg (n - (I + 1))
                case measure => omega
                case rel => exact ⟨I + 1, t, by omega, by omega, rfl, by first | rfl | (congr 1), HN.out _ ((Fr.refl _ _).drewN _), HG2.out⟩
        · have HF2 := tHid (HF.out true wr (by rw [hE, List.drop_eq_nil_of_le (by have := HLN.out; omega)]; rfl) hN)
          obtain rfl : I = n := by omega
          clear HF HI HS HL hE hN
          go_wp2_with fail
          first | exact HF2.out | (go_ret; exact HF2.out)
end Go.Proofs.YtffhpoilifgcdaaDoor

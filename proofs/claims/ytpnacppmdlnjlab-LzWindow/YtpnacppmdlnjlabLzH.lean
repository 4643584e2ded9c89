import Derived.Test.YtpnacppmdlnjlabLzG
namespace Go.Proofs.Ytpnacppmdlnjlab
open Go.RowKit
set_option linter.unusedVariables false
set_option maxHeartbeats 8000000 in
theorem scanMatch_any {σ : Type} {T : Tk σ} {D : Nat} {ty : TypeId} {v : Value} {fR fP fC fM fE : Nat} {TI : σ → (Nat → Prop) → World → Prop} (HT : Tkr T D ty v fR fP fC fM fE TI)
    {B1 B2 B3 : Nat} {a : Option Addr} {c : Nat} {b : List By} {i : Nat} {s : σ} {K : Nat → Prop} {w : World} (hR : Rds D B1 B2 B3 a c b i w) (hT : TI s K w) (hK : KK K D B1 B2 B3 w) (hb : b ≠ []) (low : Nat) (hl : low ≤ 15) :
    Calls Try.prog 13 #[.agg (rdsV B1 B2 B3 b.length).toArray, .iface ty v, .int .u8 low] w (Stepd TI D B1 B2 B3 a c b K (matchS T b.length low (b.drop i) s) w) := by
  obtain ⟨W0, hW0⟩ : ∃ W0, w.alloc (.cells (rdsV B1 B2 B3 b.length).toArray 44) = W0 := ⟨_, rfl⟩
  have hN0 : Nw w W0 := by rw [← hW0]; exact (Fr.refl _ _).alloc _
  have hs0 : W0.heap.size = w.heap.size + 1 := by rw [← hW0]; simp
  have hx0 : Bx w.heap.size B1 B2 B3 b.length W0 := by rw [← hW0]; exact Bx.new _ _ _ _ _
  have hR0 := hR.nw hN0
  have hd2 := hR.d2
  have hlt2 := hR.lt2
  have hsm := hR.sm
  obtain ⟨q, hq⟩ : ∃ q, w.heap.size = q := ⟨_, rfl⟩
  rw [hq] at hx0
  have hT0 : TI s (fun k => K k ∨ k = q) W0 := HT.grow hT hN0 (fun k hk => by rcases hk with h | h; exact .inl h; exact .inr (by omega))
  have hK0 : KK (fun k => K k ∨ k = q) D B1 B2 B3 W0 := ⟨fun k h => .inl (hK.d k h), .inl hK.b1, .inl hK.b2, .inl hK.b3, fun k h => by rcases h with h | h; have := hK.lt k h; omega; omega⟩
  have hqB : q ≠ B2 := by omega
  have hFB : ∀ w', Fr (fun k => k = B2) W0 w' → Fr (fun k => ¬ K k ∨ k = B2) w w' := fun w' hF => hN0.any.trans (hF.mono (fun k hk => .inl (.inr hk)))
  have hFT : ∀ w' w'', Fr (fun k => ¬ (K k ∨ k = q)) w' w'' → Fr (fun k => ¬ K k ∨ k = B2) w' w'' := fun w' w'' hF => hF.mono (fun k hk => .inl (.inl (fun h => hk (.inl h))))
  have hkeep : ∀ {s' w1 w2}, TI s' (fun k => K k ∨ k = q) w1 → Fr (fun k => k = B2) w1 w2 → TI s' (fun k => K k ∨ k = q) w2 := fun h f => HT.keep h f (fun k hk => by subst hk; exact ⟨.inl hK.b2, hd2⟩)
  have hlen : (b.drop i).length = b.length - i := by simp
  have hle := hR.le
  by_cases h2 : b.length < i + 2
  · refine sm_short _ (fun w' => Nw w w') B1 B2 B3 b.length q low ty v w W0 hW0 hq i hx0 ?_ ?_
    · refine (place_any hR0).mono ?_
      rintro e w1 ⟨rfl, rfl⟩
      refine ⟨rfl, hx0, ?_⟩
      refine (take_no hR0 2 (by omega)).mono ?_
      rintro e w2 ⟨rfl, rfl⟩
      exact ⟨rfl, hx0, hN0⟩
    · intro w' hF
      refine ⟨hF.any, ?_⟩
      have hl2 : (b.drop i).length < 2 := by omega
      generalize b.drop i = r at hl2
      unfold matchS
      match r, hl2 with
      | [], _ => exact ⟨rfl, by decide⟩
      | [x], _ => exact ⟨rfl, by decide⟩
      | x :: y :: r, h => simp at h; omega
  · have hx : i < b.length := by omega
    have hy : i + 1 < b.length := by omega
    have hdr : b.drop i = b[i] :: b[i + 1] :: b.drop (i + 2) := by rw [List.drop_eq_getElem_cons hx, List.drop_eq_getElem_cons hy]
    have hxl := b[i].isLt
    have hyl := b[i + 1].isLt
    have HTWO : ∀ R : World → Prop, (∀ w2, Fr (fun k => k = B2) W0 w2 → Rds D B1 B2 B3 a c b (i + 2) w2 → R w2) → Hid (Two q B1 B2 B3 b.length i b[i].toNat b[i + 1].toNat W0 R) := by
      intro R hR2
      refine (place_any hR0).mono ?_
      rintro e w1 ⟨rfl, rfl⟩
      refine ⟨rfl, hx0, ?_⟩
      refine (take_yes hR0 hb 2 (by omega)).mono ?_
      rintro e w2 ⟨g, o, d, rfl, hd, hd', hg, hrd, hRr, hF⟩
      refine ⟨g, o, d, rfl, ?_, ?_, hx0.kept hF hqB, hR2 _ hF hRr⟩
      · have := hrd.at 0 b[i] (by rw [hdr]; rfl)
        rw [Nat.add_zero] at this; exact this
      · exact hrd.at 1 b[i + 1] (by rw [hdr]; rfl)
    generalize hX : b[i].toNat = X at *
    generalize hY : b[i + 1].toNat = Y at *
    have hM : matchS T b.length low (b.drop i) s = if X + 256 * Y = 0 ∨ T.reaches s (X + 256 * Y) = false then .bad i 30 else match num low (b.drop (i + 2)) with
      | none => .bad b.length 4
      | some (n, k) => if T.room s (n + 4) = false then .bad i 32 else .ok ((b.drop (i + 2)).drop k) (T.mat s (X + 256 * Y) (n + 4)) := by
      have e : b.length - (b[i] :: b[i + 1] :: b.drop (i + 2)).length = i := by simp; omega
      rw [hdr]
      simp only [matchS, hX, hY, e]
      by_cases hc : X + 256 * Y = 0 ∨ T.reaches s (X + 256 * Y) = false
      · rw [if_pos hc, if_pos hc]
      · rw [if_neg hc, if_neg hc]
        cases num low (b.drop (i + 2)) <;> rfl
    rw [hM]
    by_cases h0 : X + 256 * Y = 0
    · obtain ⟨rfl, rfl⟩ : X = 0 ∧ Y = 0 := by omega
      refine sm_zero _ (fun w' => Fr (fun k => ¬ K k ∨ k = B2) w w') B1 B2 B3 b.length q low ty v w W0 hW0 hq i hx0 (HTWO _ (fun w2 hF _ => hFB _ hF)) ?_
      intro w' w'' hF hN
      refine ⟨hF.trans hN.any, ?_⟩
      simp only [Nat.mul_zero, Nat.add_zero, true_or, if_true]
      exact ⟨rfl, by decide⟩
    · by_cases hre : T.reaches s (X + 256 * Y) = true
      · have hcond : ¬ (X + 256 * Y = 0 ∨ T.reaches s (X + 256 * Y) = false) := fun h => by rcases h with h | h; exact h0 h; rw [hre] at h; cases h
        rw [if_neg hcond]
        have HRE : ∀ w2 V, Fr (fun k => k = B2) W0 w2 → Nw w2 V → Calls Try.prog fC #[v, .int .i64 (X + 256 * Y : Nat)] V fun e w3 => e = .returned (.bool true) ∧ Nw w2 w3 := by
          intro w2 V hF hN
          refine (HT.reaches (X + 256 * Y) (HT.grow (hkeep hT0 hF) hN (fun k hk => .inl hk)) (by omega)).mono ?_
          rintro e w3 ⟨rfl, hN3⟩
          exact ⟨by rw [hre], hN.trans hN3⟩
        cases hn : num low (b.drop (i + 2)) with
        | none =>
          refine sm_cut _ (fun w' => Fr (fun k => ¬ K k ∨ k = B2) w w') B1 B2 B3 b.length q low ty v w W0 hW0 hq i X Y hxl hyl h0 fC HT.mC HT.eC hx0 (HTWO _ (fun w2 hF hR2 V hV => ?_)) ?_
          · refine (HRE w2 V hF hV).mono ?_
            rintro e w3 ⟨rfl, hN3⟩
            have hx3 := (hx0.kept hF hqB).kept hN3 (fun h => h)
            refine ⟨rfl, hx3, ?_⟩
            refine (number_any (hR2.nw hN3) low hl).mono ?_
            rw [hn]
            rintro e w4 ⟨rfl, hF4⟩
            exact ⟨rfl, hx3.kept hF4 hqB, ((hFB _ hF).trans hN3.any).trans (hF4.mono (fun k hk => .inl (.inr hk)))⟩
          · intro w' hF
            exact ⟨hF, rfl, by decide⟩
        | some p =>
          obtain ⟨n, k⟩ := p
          have hnk := num_le hn hl
          have hlen2 : (b.drop (i + 2)).length = b.length - (i + 2) := by simp
          rw [hlen2] at hnk
          by_cases hroom : T.room s (n + 4) = true
          · refine sm_ok _ (fun w' => Fr (fun k => ¬ K k ∨ k = B2) w w' ∧ Rds D B1 B2 B3 a c b (i + 2 + k) w' ∧ TI (T.mat s (X + 256 * Y) (n + 4)) K w') B1 B2 B3 b.length q low ty v w W0 hW0 hq i X Y n hxl hyl h0 (by omega) fC fR fM HT.mC HT.eC HT.mR HT.eR HT.mM HT.eM hx0 (HTWO _ (fun w2 hF hR2 V hV => ?_)) ?_
            · refine (HRE w2 V hF hV).mono ?_
              rintro e w3 ⟨rfl, hN3⟩
              have hx3 := (hx0.kept hF hqB).kept hN3 (fun h => h)
              have hT3 := HT.grow (hkeep hT0 hF) hN3 (fun k hk => .inl hk)
              refine ⟨rfl, hx3, ?_⟩
              refine (number_any (hR2.nw hN3) low hl).mono ?_
              rw [hn]
              rintro e w4 ⟨rfl, hR4, hF4⟩
              have hx4 := hx3.kept hF4 hqB
              have hT4 := hkeep hT3 hF4
              refine ⟨rfl, hx4, ?_⟩
              intro z hz
              subst hz
              have := HT.room (n + 4) hT4 (by omega)
              rw [show (((n + 4 : Nat)) : Int) = (n : Int) + 4 by omega] at this
              refine this.mono ?_
              rintro e w5 ⟨rfl, hN5⟩
              refine ⟨by rw [hroom], hx4.kept hN5 (fun h => h), ?_⟩
              intro z hz
              subst hz
              have hT5 := HT.grow hT4 hN5 (fun k hk => .inl hk)
              have hK5 := hK0.grow (w' := w5) (Nat.le_trans hF.size (Nat.le_trans hN3.size (Nat.le_trans hF4.size hN5.size)))
              have := HT.mat (X + 256 * Y) (n + 4) hT5 hK5.d hK5.lt (by omega) (by omega) (by omega) hre hroom
              rw [show (((n + 4 : Nat)) : Int) = (n : Int) + 4 by omega] at this
              refine this.mono ?_
              rintro e w6 ⟨hr6, hT6, hF6⟩
              exact ⟨hr6, ((((hFB _ hF).trans hN3.any).trans (hF4.mono (fun k hk => .inl (.inr hk)))).trans hN5.any).trans (hFT _ _ hF6), (hR4.nw hN5).taken hK0 hF6, HT.grow hT6 (Fr.refl _ _) (fun k hk => .inl (.inl hk))⟩
            · rintro w' ⟨hF, hR', hT'⟩
              refine ⟨hF, ?_⟩
              simp only [hroom, Bool.true_eq_false, if_false]
              exact ⟨trivial, i + 2 + k, by rw [List.drop_drop], hR', hT'⟩
          · have hroom' : T.room s (n + 4) = false := by simpa using hroom
            refine sm_full _ (fun w' => Fr (fun k => ¬ K k ∨ k = B2) w w') B1 B2 B3 b.length q low ty v w W0 hW0 hq i X Y n hxl hyl h0 (by omega) fC fR HT.mC HT.eC HT.mR HT.eR hx0 (HTWO _ (fun w2 hF hR2 V hV => ?_)) ?_
            · refine (HRE w2 V hF hV).mono ?_
              rintro e w3 ⟨rfl, hN3⟩
              have hx3 := (hx0.kept hF hqB).kept hN3 (fun h => h)
              have hT3 := HT.grow (hkeep hT0 hF) hN3 (fun k hk => .inl hk)
              refine ⟨rfl, hx3, ?_⟩
              refine (number_any (hR2.nw hN3) low hl).mono ?_
              rw [hn]
              rintro e w4 ⟨rfl, hR4, hF4⟩
              have hx4 := hx3.kept hF4 hqB
              refine ⟨rfl, hx4, ?_⟩
              intro z hz
              subst hz
              have := HT.room (n + 4) (hkeep hT3 hF4) (by omega)
              rw [show (((n + 4 : Nat)) : Int) = (n : Int) + 4 by omega] at this
              refine this.mono ?_
              rintro e w5 ⟨rfl, hN5⟩
              exact ⟨by rw [hroom'], hx4.kept hN5 (fun h => h), (((hFB _ hF).trans hN3.any).trans (hF4.mono (fun k hk => .inl (.inr hk)))).trans hN5.any⟩
            · intro w' hF
              refine ⟨hF, ?_⟩
              simp only [hroom', if_true]
              exact ⟨rfl, by decide⟩
      · have hre' : T.reaches s (X + 256 * Y) = false := by simpa using hre
        refine sm_far _ (fun w' => Fr (fun k => ¬ K k ∨ k = B2) w w') B1 B2 B3 b.length q low ty v w W0 hW0 hq i X Y hxl hyl h0 fC HT.mC HT.eC hx0 (HTWO _ (fun w2 hF hR2 V hV => ?_)) ?_
        · refine (HT.reaches (X + 256 * Y) (HT.grow (hkeep hT0 hF) hV (fun k hk => .inl hk)) (by omega)).mono ?_
          rintro e w3 ⟨rfl, hN3⟩
          exact ⟨by rw [hre'], ((hFB _ hF).trans hV.any).trans hN3.any⟩
        · intro w' hF
          refine ⟨hF, ?_⟩
          simp only [hre', or_true, if_true]
          exact ⟨rfl, by decide⟩
end Go.Proofs.Ytpnacppmdlnjlab

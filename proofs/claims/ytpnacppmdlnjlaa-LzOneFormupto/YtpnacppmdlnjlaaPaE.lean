import Derived.Test.YtpnacppmdlnjlaaLzN
namespace Go.Proofs.Ytpnacppmdlnjlaa
open Go.RowKit
set_option linter.unusedVariables false
set_option linter.unusedSectionVars false
/-- One that is told of sequences, and that asks something of its state ahead of each part: what holds of it while it has taken s, with the blocks of K left alone. -/
structure Tkg {σ : Type} (T : Tk σ) (D : Nat) (ty : TypeId) (v : Value) (fR fP fC fM fE : Nat) (TI : σ → (Nat → Prop) → World → Prop) (Gp Gm : σ → Prop) : Prop where
  mR : ∀ w, (method 217 ty v "satchel/lz.room").run Try.prog w = .ok (fR, v) w
  mP : ∀ w, (method 217 ty v "satchel/lz.plain").run Try.prog w = .ok (fP, v) w
  mC : ∀ w, (method 217 ty v "satchel/lz.reaches").run Try.prog w = .ok (fC, v) w
  mM : ∀ w, (method 217 ty v "satchel/lz.match").run Try.prog w = .ok (fM, v) w
  mE : ∀ w, (method 217 ty v "satchel/lz.end").run Try.prog w = .ok (fE, v) w
  eR : ∀ args w, (callFunc fR args).run Try.prog w = .ok (.enter fR args) w
  eP : ∀ args w, (callFunc fP args).run Try.prog w = .ok (.enter fP args) w
  eC : ∀ args w, (callFunc fC args).run Try.prog w = .ok (.enter fC args) w
  eM : ∀ args w, (callFunc fM args).run Try.prog w = .ok (.enter fM args) w
  eE : ∀ args w, (callFunc fE args).run Try.prog w = .ok (.enter fE args) w
  grow : ∀ {s K K' w w'}, TI s K w → Nw w w' → (∀ k, K' k → K k ∨ w.heap.size ≤ k) → TI s K' w'
  keep : ∀ {s} {K : Nat → Prop} {X : Nat → Prop} {w w'}, TI s K w → Fr X w w' → (∀ k, X k → K k ∧ D ≤ k) → TI s K w'
  room : ∀ {s K w} (n : Nat), TI s K w → n < 4611686018427387904 → Calls Try.prog fR #[v, .int .i64 n] w fun e w' => e = .returned (.bool (T.room s n)) ∧ Nw w w'
  plain : ∀ {s} {K : Nat → Prop} {w} {u : Value} {p : List By}, TI s K w → Gp s → (∀ k, k < D → K k) → (∀ k, K k → k < w.heap.size) → (∃ g, g < D ∧ SlB g u p w) → p.length ≤ 140737488351232 → T.room s p.length = true → Calls Try.prog fP #[v, u] w fun e w' => (∃ r, e = .returned r) ∧ TI (T.plain s p) K w' ∧ Fr (fun k => ¬ K k) w w'
  reaches : ∀ {s K w} (n : Nat), TI s K w → n < 65536 → Calls Try.prog fC #[v, .int .i64 n] w fun e w' => e = .returned (.bool (T.reaches s n)) ∧ Nw w w'
  mat : ∀ {s} {K : Nat → Prop} {w} (back n : Nat), TI s K w → Gm s → (∀ k, k < D → K k) → (∀ k, K k → k < w.heap.size) → 1 ≤ back → back < 65536 → n < 4611686018427387904 → T.reaches s back = true → T.room s n = true → Calls Try.prog fM #[v, .int .i64 back, .int .i64 n] w fun e w' => (∃ r, e = .returned r) ∧ TI (T.mat s back n) K w' ∧ Fr (fun k => ¬ K k) w w'
  fin : ∀ {s} {K : Nat → Prop} {w}, TI s K w → Gm s → (∀ k, k < D → K k) → (∀ k, K k → k < w.heap.size) → Calls Try.prog fE #[v] w fun e w' => (∃ r, e = .returned r) ∧ TI (T.fin s) K w' ∧ Fr (fun k => ¬ K k) w w'
set_option maxHeartbeats 8000000 in
theorem scanPlain_g {σ : Type} {T : Tk σ} {D : Nat} {ty : TypeId} {v : Value} {fR fP fC fM fE : Nat} {TI : σ → (Nat → Prop) → World → Prop} {Gp Gm : σ → Prop} (HT : Tkg T D ty v fR fP fC fM fE TI Gp Gm)
    {B1 B2 B3 : Nat} {a : Option Addr} {c : Nat} {b : List By} {i : Nat} {s : σ} {K : Nat → Prop} {w : World} (hR : Rds D B1 B2 B3 a c b i w) (hT : TI s K w) (hG : Gp s) (hK : KK K D B1 B2 B3 w) (hb : b ≠ []) (low : Nat) (hl : low ≤ 15) :
    Calls Try.prog 42 #[.agg (rdsV B1 B2 B3 b.length).toArray, .iface ty v, .int .u8 low] w (Stepd TI D B1 B2 B3 a c b K (plainS T b.length low (b.drop i) s) w) := by
  obtain ⟨W0, hW0⟩ : ∃ W0, w.alloc (.cells (rdsV B1 B2 B3 b.length).toArray 76) = W0 := ⟨_, rfl⟩
  have hN0 : Nw w W0 := by rw [← hW0]; exact (Fr.refl _ _).alloc _
  have hs0 : W0.heap.size = w.heap.size + 1 := by rw [← hW0]; simp
  have hx0 : Bx w.heap.size B1 B2 B3 b.length W0 := by rw [← hW0]; exact Bx.new _ _ _ _ _
  have hR0 := hR.nw hN0
  have hd2 := hR.d2
  have hlt2 := hR.lt2
  have hsm := hR.sm
  obtain ⟨q, hq⟩ : ∃ q, w.heap.size = q := ⟨_, rfl⟩
  rw [hq] at hx0
  have hqK : ¬ K q := fun h => by have := hK.lt q h; omega
  have hT0 : TI s (fun k => K k ∨ k = q) W0 := HT.grow hT hN0 (fun k hk => by rcases hk with h | h; exact .inl h; exact .inr (by omega))
  have hK0 : KK (fun k => K k ∨ k = q) D B1 B2 B3 W0 := ⟨fun k h => .inl (hK.d k h), .inl hK.b1, .inl hK.b2, .inl hK.b3, fun k h => by rcases h with h | h; have := hK.lt k h; omega; omega⟩
  have hqB : q ≠ B2 := by omega
  have hFB : ∀ w', Fr (fun k => k = B2) W0 w' → Fr (fun k => ¬ K k ∨ k = B2) w w' := fun w' hF => hN0.any.trans (hF.mono (fun k hk => .inl (.inr hk)))
  have hFT : ∀ w' w'', Fr (fun k => ¬ (K k ∨ k = q)) w' w'' → Fr (fun k => ¬ K k ∨ k = B2) w' w'' := fun w' w'' hF => hF.mono (fun k hk => .inl (.inl (fun h => hk (.inl h))))
  have hlen : (b.drop i).length = b.length - i := by simp
  have hle := hR.le
  cases hn : num low (b.drop i) with
  | none =>
    refine sp_none _ (fun w' => Fr (fun k => k = B2) W0 w') B1 B2 B3 b.length q low ty v w W0 hW0 hq hx0 ?_ ?_
    · refine (number_any hR0 low hl).mono ?_
      rw [hn]
      rintro e w' ⟨rfl, hF⟩
      exact ⟨rfl, hx0.kept hF hqB, hF⟩
    · intro w' hF
      refine ⟨hFB _ hF, ?_⟩
      simp only [plainS, hn]
      exact ⟨rfl, by decide⟩
  | some p =>
    obtain ⟨n, k⟩ := p
    have hnk := num_le hn hl
    rw [hlen] at hnk
    by_cases hroom : T.room s n = true
    · by_cases hsh : (b.drop i).length - k < n
      · -- its bytes end
        refine sp_short _ (fun w' => Fr (fun k => ¬ K k ∨ k = B2) w w') B1 B2 B3 b.length q low ty v w W0 hW0 hq n fR HT.mR HT.eR hx0 ?_ ?_
        · refine (number_any hR0 low hl).mono ?_
          rw [hn]
          rintro e w1 ⟨rfl, hR1, hF1⟩
          have hx1 := hx0.kept hF1 hqB
          refine ⟨rfl, hx1, ?_⟩
          refine (HT.room n (HT.keep hT0 hF1 (fun k hk => by subst hk; exact ⟨.inl hK.b2, hd2⟩)) (by omega)).mono ?_
          rintro e w2 ⟨rfl, hN2⟩
          refine ⟨by rw [hroom], hx1.kept hN2 (fun h => h), ?_⟩
          refine (take_no (hR1.nw hN2) n (by omega)).mono ?_
          rintro e w3 ⟨rfl, rfl⟩
          exact ⟨rfl, hx1.kept hN2 (fun h => h), (hFB _ hF1).trans hN2.any⟩
        · intro w' hF
          refine ⟨hF, ?_⟩
          simp only [plainS, hn, hroom, hsh, if_true, Bool.true_eq_false, if_false]
          exact ⟨rfl, by decide⟩
      · -- taken
        rw [hlen] at hsh
        have hpl : ((b.drop (i + k)).take n).length = n := by simp; omega
        refine sp_ok _ (fun w' => Fr (fun k => ¬ K k ∨ k = B2) w w' ∧ Rds D B1 B2 B3 a c b (i + k + n) w' ∧ TI (T.plain s ((b.drop (i + k)).take n)) K w') B1 B2 B3 b.length q low ty v w W0 hW0 hq n fR fP HT.mR HT.eR HT.mP HT.eP hx0 ?_ ?_
        · refine (number_any hR0 low hl).mono ?_
          rw [hn]
          rintro e w1 ⟨rfl, hR1, hF1⟩
          have hx1 := hx0.kept hF1 hqB
          have hT1 := HT.keep hT0 hF1 (fun k hk => by subst hk; exact ⟨.inl hK.b2, hd2⟩)
          refine ⟨rfl, hx1, ?_⟩
          refine (HT.room n hT1 (by omega)).mono ?_
          rintro e w2 ⟨rfl, hN2⟩
          have hx2 := hx1.kept hN2 (fun h => h)
          have hT2 := HT.grow hT1 hN2 (fun k hk => .inl hk)
          refine ⟨by rw [hroom], hx2, ?_⟩
          refine (take_yes (hR1.nw hN2) hb n (by omega)).mono ?_
          rintro e w3 ⟨g, q3, d3, rfl, hd3, hd3', hg, hrd, hR3, hF3⟩
          have hT3 := HT.keep hT2 hF3 (fun k hk => by subst hk; exact ⟨.inl hK.b2, hd2⟩)
          have hK3 := hK0.grow (w' := w3) (Nat.le_trans hF1.size (Nat.le_trans hN2.size hF3.size))
          refine ⟨_, _, _, rfl, hx2.kept hF3 hqB, ?_⟩
          have hsl : ∃ g', g' < D ∧ SlB g' (.slice (some ⟨g, q3, none⟩) n d3) ((b.drop (i + k)).take n) w3 := ⟨g, hg, q3, d3, by rw [hpl], by rw [hpl]; exact hd3, hd3', hrd⟩
          refine (HT.plain hT3 hG hK3.d hK3.lt hsl (by omega) (by rw [hpl]; exact hroom)).mono ?_
          rintro e w4 ⟨hr4, hT4, hF4⟩
          exact ⟨hr4, (((hFB _ hF1).trans hN2.any).trans (hF3.mono (fun k hk => .inl (.inr hk)))).trans (hFT _ _ hF4), hR3.taken hK0 hF4, HT.grow hT4 (Fr.refl _ _) (fun k hk => .inl (.inl hk))⟩
        · rintro w' ⟨hF, hR', hT'⟩
          refine ⟨hF, ?_⟩
          have hsh' : ¬ (b.drop i).length - k < n := by rw [hlen]; exact hsh
          simp only [plainS, hn, hroom, hsh', Bool.true_eq_false, if_false]
          refine ⟨trivial, i + k + n, ?_, hR', ?_⟩
          · rw [List.drop_drop]; congr 1; omega
          · rw [List.drop_drop]; exact hT'
    · -- no room
      have hroom' : T.room s n = false := by simpa using hroom
      refine sp_full _ (fun w' => Fr (fun k => ¬ K k ∨ k = B2) w w') B1 B2 B3 b.length q low ty v w W0 hW0 hq n fR HT.mR HT.eR hx0 (i + k) ?_ ?_
      · refine (number_any hR0 low hl).mono ?_
        rw [hn]
        rintro e w1 ⟨rfl, hR1, hF1⟩
        have hx1 := hx0.kept hF1 hqB
        refine ⟨rfl, hx1, ?_⟩
        refine (HT.room n (HT.keep hT0 hF1 (fun k hk => by subst hk; exact ⟨.inl hK.b2, hd2⟩)) (by omega)).mono ?_
        rintro e w2 ⟨rfl, hN2⟩
        refine ⟨by rw [hroom'], hx1.kept hN2 (fun h => h), ?_⟩
        refine (place_any (hR1.nw hN2)).mono ?_
        rintro e w3 ⟨rfl, rfl⟩
        exact ⟨rfl, (hFB _ hF1).trans hN2.any⟩
      · intro w' hF
        refine ⟨hF, ?_⟩
        simp only [plainS, hn, hroom', if_true]
        refine ⟨?_, by decide⟩
        rw [hlen, show b.length - (b.length - i - k) = i + k by omega]
        rfl
set_option maxHeartbeats 8000000 in
theorem scanMatch_g {σ : Type} {T : Tk σ} {D : Nat} {ty : TypeId} {v : Value} {fR fP fC fM fE : Nat} {TI : σ → (Nat → Prop) → World → Prop} {Gp Gm : σ → Prop} (HT : Tkg T D ty v fR fP fC fM fE TI Gp Gm)
    {B1 B2 B3 : Nat} {a : Option Addr} {c : Nat} {b : List By} {i : Nat} {s : σ} {K : Nat → Prop} {w : World} (hR : Rds D B1 B2 B3 a c b i w) (hT : TI s K w) (hG : Gm s) (hK : KK K D B1 B2 B3 w) (hb : b ≠ []) (low : Nat) (hl : low ≤ 15) :
    Calls Try.prog 43 #[.agg (rdsV B1 B2 B3 b.length).toArray, .iface ty v, .int .u8 low] w (Stepd TI D B1 B2 B3 a c b K (matchS T b.length low (b.drop i) s) w) := by
  obtain ⟨W0, hW0⟩ : ∃ W0, w.alloc (.cells (rdsV B1 B2 B3 b.length).toArray 76) = W0 := ⟨_, rfl⟩
  have hN0 : Nw w W0 := by rw [← hW0]; exact (Fr.refl _ _).alloc _
  have hs0 : W0.heap.size = w.heap.size + 1 := by rw [← hW0]; simp
  have hx0 : Bx w.heap.size B1 B2 B3 b.length W0 := by rw [← hW0]; exact Bx.new _ _ _ _ _
  have hR0 := hR.nw hN0
  have hd2 := hR.d2
  have hlt2 := hR.lt2
  have hsm := hR.sm
  obtain ⟨q, hq⟩ : ∃ q, w.heap.size = q := ⟨_, rfl⟩
  rw [hq] at hx0
  have hT0 : TI s (fun k => K k ∨ k = q) W0 := HT.grow hT hN0 (fun k hk => by rcases hk with h | h; exact .inl h; exact .inr (by omega))
  have hK0 : KK (fun k => K k ∨ k = q) D B1 B2 B3 W0 := ⟨fun k h => .inl (hK.d k h), .inl hK.b1, .inl hK.b2, .inl hK.b3, fun k h => by rcases h with h | h; have := hK.lt k h; omega; omega⟩
  have hqB : q ≠ B2 := by omega
  have hFB : ∀ w', Fr (fun k => k = B2) W0 w' → Fr (fun k => ¬ K k ∨ k = B2) w w' := fun w' hF => hN0.any.trans (hF.mono (fun k hk => .inl (.inr hk)))
  have hFT : ∀ w' w'', Fr (fun k => ¬ (K k ∨ k = q)) w' w'' → Fr (fun k => ¬ K k ∨ k = B2) w' w'' := fun w' w'' hF => hF.mono (fun k hk => .inl (.inl (fun h => hk (.inl h))))
  have hkeep : ∀ {s' w1 w2}, TI s' (fun k => K k ∨ k = q) w1 → Fr (fun k => k = B2) w1 w2 → TI s' (fun k => K k ∨ k = q) w2 := fun h f => HT.keep h f (fun k hk => by subst hk; exact ⟨.inl hK.b2, hd2⟩)
  have hlen : (b.drop i).length = b.length - i := by simp
  have hle := hR.le
  by_cases h2 : b.length < i + 2
  · refine sm_short _ (fun w' => Nw w w') B1 B2 B3 b.length q low ty v w W0 hW0 hq i hx0 ?_ ?_
    · refine (place_any hR0).mono ?_
      rintro e w1 ⟨rfl, rfl⟩
      refine ⟨rfl, hx0, ?_⟩
      refine (take_no hR0 2 (by omega)).mono ?_
      rintro e w2 ⟨rfl, rfl⟩
      exact ⟨rfl, hx0, hN0⟩
    · intro w' hF
      refine ⟨hF.any, ?_⟩
      have hl2 : (b.drop i).length < 2 := by omega
      generalize b.drop i = r at hl2
      unfold matchS
      match r, hl2 with
      | [], _ => exact ⟨rfl, by decide⟩
      | [x], _ => exact ⟨rfl, by decide⟩
      | x :: y :: r, h => simp at h; omega
  · have hx : i < b.length := by omega
    have hy : i + 1 < b.length := by omega
    have hdr : b.drop i = b[i] :: b[i + 1] :: b.drop (i + 2) := by rw [List.drop_eq_getElem_cons hx, List.drop_eq_getElem_cons hy]
    have hxl := b[i].isLt
    have hyl := b[i + 1].isLt
    have HTWO : ∀ R : World → Prop, (∀ w2, Fr (fun k => k = B2) W0 w2 → Rds D B1 B2 B3 a c b (i + 2) w2 → R w2) → Hid (Two q B1 B2 B3 b.length i b[i].toNat b[i + 1].toNat W0 R) := by
      intro R hR2
      refine (place_any hR0).mono ?_
      rintro e w1 ⟨rfl, rfl⟩
      refine ⟨rfl, hx0, ?_⟩
      refine (take_yes hR0 hb 2 (by omega)).mono ?_
      rintro e w2 ⟨g, o, d, rfl, hd, hd', hg, hrd, hRr, hF⟩
      refine ⟨g, o, d, rfl, ?_, ?_, hx0.kept hF hqB, hR2 _ hF hRr⟩
      · have := hrd.at 0 b[i] (by rw [hdr]; rfl)
        rw [Nat.add_zero] at this; exact this
      · exact hrd.at 1 b[i + 1] (by rw [hdr]; rfl)
    generalize hX : b[i].toNat = X at *
    generalize hY : b[i + 1].toNat = Y at *
    have hM : matchS T b.length low (b.drop i) s = if X + 256 * Y = 0 ∨ T.reaches s (X + 256 * Y) = false then .bad i 30 else match num low (b.drop (i + 2)) with
      | none => .bad b.length 4
      | some (n, k) => if T.room s (n + 4) = false then .bad i 32 else .ok ((b.drop (i + 2)).drop k) (T.mat s (X + 256 * Y) (n + 4)) := by
      have e : b.length - (b[i] :: b[i + 1] :: b.drop (i + 2)).length = i := by simp; omega
      rw [hdr]
      simp only [matchS, hX, hY, e]
      by_cases hc : X + 256 * Y = 0 ∨ T.reaches s (X + 256 * Y) = false
      · rw [if_pos hc, if_pos hc]
      · rw [if_neg hc, if_neg hc]
        cases num low (b.drop (i + 2)) <;> rfl
    rw [hM]
    by_cases h0 : X + 256 * Y = 0
    · obtain ⟨rfl, rfl⟩ : X = 0 ∧ Y = 0 := by omega
      refine sm_zero _ (fun w' => Fr (fun k => ¬ K k ∨ k = B2) w w') B1 B2 B3 b.length q low ty v w W0 hW0 hq i hx0 (HTWO _ (fun w2 hF _ => hFB _ hF)) ?_
      intro w' w'' hF hN
      refine ⟨hF.trans hN.any, ?_⟩
      simp only [Nat.mul_zero, Nat.add_zero, true_or, if_true]
      exact ⟨rfl, by decide⟩
    · by_cases hre : T.reaches s (X + 256 * Y) = true
      · have hcond : ¬ (X + 256 * Y = 0 ∨ T.reaches s (X + 256 * Y) = false) := fun h => by rcases h with h | h; exact h0 h; rw [hre] at h; cases h
        rw [if_neg hcond]
        have HRE : ∀ w2 V, Fr (fun k => k = B2) W0 w2 → Nw w2 V → Calls Try.prog fC #[v, .int .i64 (X + 256 * Y : Nat)] V fun e w3 => e = .returned (.bool true) ∧ Nw w2 w3 := by
          intro w2 V hF hN
          refine (HT.reaches (X + 256 * Y) (HT.grow (hkeep hT0 hF) hN (fun k hk => .inl hk)) (by omega)).mono ?_
          rintro e w3 ⟨rfl, hN3⟩
          exact ⟨by rw [hre], hN.trans hN3⟩
        cases hn : num low (b.drop (i + 2)) with
        | none =>
          refine sm_cut _ (fun w' => Fr (fun k => ¬ K k ∨ k = B2) w w') B1 B2 B3 b.length q low ty v w W0 hW0 hq i X Y hxl hyl h0 fC HT.mC HT.eC hx0 (HTWO _ (fun w2 hF hR2 V hV => ?_)) ?_
          · refine (HRE w2 V hF hV).mono ?_
            rintro e w3 ⟨rfl, hN3⟩
            have hx3 := (hx0.kept hF hqB).kept hN3 (fun h => h)
            refine ⟨rfl, hx3, ?_⟩
            refine (number_any (hR2.nw hN3) low hl).mono ?_
            rw [hn]
            rintro e w4 ⟨rfl, hF4⟩
            exact ⟨rfl, hx3.kept hF4 hqB, ((hFB _ hF).trans hN3.any).trans (hF4.mono (fun k hk => .inl (.inr hk)))⟩
          · intro w' hF
            exact ⟨hF, rfl, by decide⟩
        | some p =>
          obtain ⟨n, k⟩ := p
          have hnk := num_le hn hl
          have hlen2 : (b.drop (i + 2)).length = b.length - (i + 2) := by simp
          rw [hlen2] at hnk
          by_cases hroom : T.room s (n + 4) = true
          · refine sm_ok _ (fun w' => Fr (fun k => ¬ K k ∨ k = B2) w w' ∧ Rds D B1 B2 B3 a c b (i + 2 + k) w' ∧ TI (T.mat s (X + 256 * Y) (n + 4)) K w') B1 B2 B3 b.length q low ty v w W0 hW0 hq i X Y n hxl hyl h0 (by omega) fC fR fM HT.mC HT.eC HT.mR HT.eR HT.mM HT.eM hx0 (HTWO _ (fun w2 hF hR2 V hV => ?_)) ?_
            · refine (HRE w2 V hF hV).mono ?_
              rintro e w3 ⟨rfl, hN3⟩
              have hx3 := (hx0.kept hF hqB).kept hN3 (fun h => h)
              have hT3 := HT.grow (hkeep hT0 hF) hN3 (fun k hk => .inl hk)
              refine ⟨rfl, hx3, ?_⟩
              refine (number_any (hR2.nw hN3) low hl).mono ?_
              rw [hn]
              rintro e w4 ⟨rfl, hR4, hF4⟩
              have hx4 := hx3.kept hF4 hqB
              have hT4 := hkeep hT3 hF4
              refine ⟨rfl, hx4, ?_⟩
              intro z hz
              subst hz
              have := HT.room (n + 4) hT4 (by omega)
              rw [show (((n + 4 : Nat)) : Int) = (n : Int) + 4 by omega] at this
              refine this.mono ?_
              rintro e w5 ⟨rfl, hN5⟩
              refine ⟨by rw [hroom], hx4.kept hN5 (fun h => h), ?_⟩
              intro z hz
              subst hz
              have hT5 := HT.grow hT4 hN5 (fun k hk => .inl hk)
              have hK5 := hK0.grow (w' := w5) (Nat.le_trans hF.size (Nat.le_trans hN3.size (Nat.le_trans hF4.size hN5.size)))
              have := HT.mat (X + 256 * Y) (n + 4) hT5 hG hK5.d hK5.lt (by omega) (by omega) (by omega) hre hroom
              rw [show (((n + 4 : Nat)) : Int) = (n : Int) + 4 by omega] at this
              refine this.mono ?_
              rintro e w6 ⟨hr6, hT6, hF6⟩
              exact ⟨hr6, ((((hFB _ hF).trans hN3.any).trans (hF4.mono (fun k hk => .inl (.inr hk)))).trans hN5.any).trans (hFT _ _ hF6), (hR4.nw hN5).taken hK0 hF6, HT.grow hT6 (Fr.refl _ _) (fun k hk => .inl (.inl hk))⟩
            · rintro w' ⟨hF, hR', hT'⟩
              refine ⟨hF, ?_⟩
              simp only [hroom, Bool.true_eq_false, if_false]
              exact ⟨trivial, i + 2 + k, by rw [List.drop_drop], hR', hT'⟩
          · have hroom' : T.room s (n + 4) = false := by simpa using hroom
            refine sm_full _ (fun w' => Fr (fun k => ¬ K k ∨ k = B2) w w') B1 B2 B3 b.length q low ty v w W0 hW0 hq i X Y n hxl hyl h0 (by omega) fC fR HT.mC HT.eC HT.mR HT.eR hx0 (HTWO _ (fun w2 hF hR2 V hV => ?_)) ?_
            · refine (HRE w2 V hF hV).mono ?_
              rintro e w3 ⟨rfl, hN3⟩
              have hx3 := (hx0.kept hF hqB).kept hN3 (fun h => h)
              have hT3 := HT.grow (hkeep hT0 hF) hN3 (fun k hk => .inl hk)
              refine ⟨rfl, hx3, ?_⟩
              refine (number_any (hR2.nw hN3) low hl).mono ?_
              rw [hn]
              rintro e w4 ⟨rfl, hR4, hF4⟩
              have hx4 := hx3.kept hF4 hqB
              refine ⟨rfl, hx4, ?_⟩
              intro z hz
              subst hz
              have := HT.room (n + 4) (hkeep hT3 hF4) (by omega)
              rw [show (((n + 4 : Nat)) : Int) = (n : Int) + 4 by omega] at this
              refine this.mono ?_
              rintro e w5 ⟨rfl, hN5⟩
              exact ⟨by rw [hroom'], hx4.kept hN5 (fun h => h), (((hFB _ hF).trans hN3.any).trans (hF4.mono (fun k hk => .inl (.inr hk)))).trans hN5.any⟩
            · intro w' hF
              refine ⟨hF, ?_⟩
              simp only [hroom', if_true]
              exact ⟨rfl, by decide⟩
      · have hre' : T.reaches s (X + 256 * Y) = false := by simpa using hre
        refine sm_far _ (fun w' => Fr (fun k => ¬ K k ∨ k = B2) w w') B1 B2 B3 b.length q low ty v w W0 hW0 hq i X Y hxl hyl h0 fC HT.mC HT.eC hx0 (HTWO _ (fun w2 hF hR2 V hV => ?_)) ?_
        · refine (HT.reaches (X + 256 * Y) (HT.grow (hkeep hT0 hF) hV (fun k hk => .inl hk)) (by omega)).mono ?_
          rintro e w3 ⟨rfl, hN3⟩
          exact ⟨by rw [hre'], ((hFB _ hF).trans hV.any).trans hN3.any⟩
        · intro w' hF
          refine ⟨hF, ?_⟩
          simp only [hre', or_true, if_true]
          exact ⟨rfl, by decide⟩
section
variable {σ : Type} {T : Tk σ} {D : Nat} {ty : TypeId} {v : Value} {fR fP fC fM fE : Nat} {TI : σ → (Nat → Prop) → World → Prop} {Gp Gm : σ → Prop} (HT : Tkg T D ty v fR fP fC fM fE TI Gp Gm) {B1 B2 B3 Bs : Nat} {a : Option Addr} {c : Nat} {b : List By} {w : World} {i : Nat} {s : σ} {wr : World}
include HT
theorem SJ.gnw (h : SJ TI D B1 B2 B3 Bs a c b w i s wr) {V : World} (hV : Nw wr V) : SJ TI D B1 B2 B3 Bs a c b w i s V :=
  ⟨h.rd.nw hV, HT.grow h.ti hV (fun k hk => .inl hk), h.kk.grow hV.size, h.bx.kept hV (fun h => h), h.fr.trans hV.any, h.nb⟩
theorem SJ.gtook (h : SJ TI D B1 B2 B3 Bs a c b w i s wr) {w1 : World} {j : Nat} (hR : Rds D B1 B2 B3 a c b j w1) (hF : Fr (fun k => k = B2) wr w1) : SJ TI D B1 B2 B3 Bs a c b w j s w1 := by
  obtain ⟨k1, k2, k3⟩ := h.frame (hF.mono (fun k hk => .inl (.inr hk)))
  exact ⟨hR, HT.keep h.ti hF (fun k hk => by subst hk; exact ⟨h.kk.b2, h.rd.d2⟩), h.kk.grow hF.size, k1, k3, h.nb⟩
theorem SJ.gok (h : SJ TI D B1 B2 B3 Bs a c b w i s wr) {w' : World} {j : Nat} {s1 : σ} (hF : Fr (fun k => ¬ KS D B1 B2 B3 Bs k ∨ k = B2) wr w') (hR : Rds D B1 B2 B3 a c b j w') (hT : TI s1 (KS D B1 B2 B3 Bs) w') : SJ TI D B1 B2 B3 Bs a c b w j s1 w' := by
  obtain ⟨k1, k2, k3⟩ := h.frame hF
  exact ⟨hR, hT, h.kk.grow hF.size, k1, k3, h.nb⟩
/-- The token. -/
theorem SJ.gtoken (h : SJ TI D B1 B2 B3 Bs a c b w i s wr) (hi : i < b.length) (R : World → Nat → Nat → Prop) (hR : ∀ w1 g q, SJ TI D B1 B2 B3 Bs a c b w (i + 1) s w1 → g < D → w1.cell? ⟨g, q, none⟩ = some (.int .u8 b[i].toNat) → R w1 g q) :
    Hid (Calls Try.prog 55 #[.int .i64 1, .pointer (some ⟨B1, 0, none⟩), .pointer (some ⟨B2, 0, none⟩)] wr fun e w1 => ∃ g q d, e = .returned (.tuple #[.slice (some ⟨g, q, none⟩) 1 d, .bool true]) ∧ w1.cell? ⟨g, q, none⟩ = some (.int .u8 b[i].toNat) ∧ Bx Bs B1 B2 B3 b.length w1 ∧ Hid (R w1 g q)) := by
  show Calls _ _ _ _ _
  have hbne : b ≠ [] := by intro h; rw [h] at hi; simp at hi
  refine (take_yes h.rd hbne 1 (by omega)).mono ?_
  rintro e w1 ⟨g, q, d, rfl, hd, hd2, hg, hrd, hR1, hF1⟩
  have hc : w1.cell? ⟨g, q, none⟩ = some (.int .u8 b[i].toNat) := by
    have := hrd.at 0 b[i] (by rw [List.drop_eq_getElem_cons hi]; rfl)
    rw [Nat.add_zero] at this; exact this
  have h1 := h.gtook HT hR1 hF1
  exact ⟨g, q, d, rfl, hc, h1.bx, hR w1 g q h1 hg hc⟩
theorem SJ.gplain (h : SJ TI D B1 B2 B3 Bs a c b w i s wr) (hG : Gp s) (hb : b ≠ []) (low : Nat) (hl : low ≤ 15) (z : Int) (hz : z = low) :
    Calls Try.prog 42 #[.agg (rdsV B1 B2 B3 b.length).toArray, .iface ty v, .int .u8 z] wr fun e w' => Fr (fun k => D ≤ k) wr w' ∧ Bx Bs B1 B2 B3 b.length w' ∧ match plainS T b.length low (b.drop i) s with
      | .bad x y => e = .returned (.tuple #[.int .i64 x, .int .i64 y]) ∧ y ≠ 0
      | .ok r s1 => e = .returned (.tuple #[.int .i64 0, .int .i64 0]) ∧ ∃ j, r = b.drop j ∧ SJ TI D B1 B2 B3 Bs a c b w j s1 w' := by
  subst hz
  refine (scanPlain_g HT h.rd h.ti hG h.kk hb low hl).mono ?_
  rintro e w' ⟨hF, hm⟩
  obtain ⟨k1, k2, k3⟩ := h.frame hF
  refine ⟨k2, k1, ?_⟩
  cases hp : plainS T b.length low (b.drop i) s with
  | bad x y => rw [hp] at hm; exact hm
  | ok r s1 =>
    rw [hp] at hm
    obtain ⟨h1, j, h2, h3, h4⟩ := hm
    exact ⟨h1, j, h2, h.gok HT hF h3 h4⟩
theorem SJ.gmat (h : SJ TI D B1 B2 B3 Bs a c b w i s wr) (hG : Gm s) (hb : b ≠ []) (low : Nat) (hl : low ≤ 15) (z : Int) (hz : z = low) :
    Calls Try.prog 43 #[.agg (rdsV B1 B2 B3 b.length).toArray, .iface ty v, .int .u8 z] wr fun e w' => Fr (fun k => D ≤ k) wr w' ∧ Bx Bs B1 B2 B3 b.length w' ∧ match matchS T b.length low (b.drop i) s with
      | .bad x y => e = .returned (.tuple #[.int .i64 x, .int .i64 y]) ∧ y ≠ 0
      | .ok r s1 => e = .returned (.tuple #[.int .i64 0, .int .i64 0]) ∧ ∃ j, r = b.drop j ∧ SJ TI D B1 B2 B3 Bs a c b w j s1 w' := by
  subst hz
  refine (scanMatch_g HT h.rd h.ti hG h.kk hb low hl).mono ?_
  rintro e w' ⟨hF, hm⟩
  obtain ⟨k1, k2, k3⟩ := h.frame hF
  refine ⟨k2, k1, ?_⟩
  cases hp : matchS T b.length low (b.drop i) s with
  | bad x y => rw [hp] at hm; exact hm
  | ok r s1 =>
    rw [hp] at hm
    obtain ⟨h1, j, h2, h3, h4⟩ := hm
    exact ⟨h1, j, h2, h.gok HT hF h3 h4⟩
end
end Go.Proofs.Ytpnacppmdlnjlaa

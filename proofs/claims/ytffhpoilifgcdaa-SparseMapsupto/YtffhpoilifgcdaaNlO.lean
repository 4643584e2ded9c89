import Derived.Test.YtffhpoilifgcdaaNlK
import Derived.Test.YtffhpoilifgcdaaNlM
namespace Go.Proofs.Ytffhpoilifgcdaa
open Go.RowKit
set_option linter.unusedVariables false
/-! ### The document's Spread -/
theorem lay_snoc (o : List By) (F : Nat) (p : List By) (x : By) (h : F + p.length < o.length) : (lay o F p).set (F + p.length) x = lay o F (p ++ [x]) := by
  have hl := lay_len o F p (by omega)
  apply List.ext_getElem?
  intro j
  rw [lay_at o F (p ++ [x]) (by rw [List.length_append, List.length_singleton]; omega), List.getElem?_set, hl, lay_at o F p (by omega), List.length_append, List.length_singleton]
  by_cases e : F + p.length = j
  · subst e
    rw [if_pos rfl, if_pos h, if_pos ⟨by omega, by omega⟩, Nat.add_sub_cancel_left, List.getElem?_append_right (Nat.le_refl _), Nat.sub_self]
    rfl
  · rw [if_neg e]
    by_cases h1 : F ≤ j ∧ j < F + p.length
    · rw [if_pos h1, if_pos ⟨h1.1, by omega⟩, List.getElem?_append_left (by omega)]
    · rw [if_neg h1, if_neg (by omega)]
theorem take_snoc' (d : List By) (A k : Nat) (h : A + k < d.length) : (d.drop A).take (k + 1) = (d.drop A).take k ++ [d[A + k]] := by
  rw [List.take_add_one, List.getElem?_drop, List.getElem?_eq_getElem h]
  rfl
set_option maxHeartbeats 8000000 in
set_option maxRecDepth 100000 in
theorem rspread_any {X Y : Nat → Prop} (w : World) (a : Option Addr) (n c : Nat) (d : List By) (hd : Sl X (.slice a n c) d w) (hX : ∀ k, w.heap.size ≤ k → X k) (hn : n ≤ 1000000000) (a2 : Option Addr) (n2 c2 : Nat) (l : List Rg) (hl : SlR RG Y (.slice a2 n2 c2) l w) (s : Int) (hs : -9223372036854775808 ≤ s ∧ s ≤ 9223372036854775807) :
    Calls Try.prog 12 #[.slice a n c, .slice a2 n2 c2, .int .i64 s] w (SpA w d l s) := by
  obtain ⟨P, hP⟩ : ∃ P : Ending → World → Prop, P = SpA w d l s := ⟨_, rfl⟩
  rw [← hP]
  obtain ⟨hdn, k1, k2⟩ := slx_len hd
  obtain ⟨hln, k3, k4⟩ := slg_len hl
  have HFb : Hid (∀ V, ¬ (s ≤ 4194304 ∧ vld l s = true ∧ hld l = d.length) → Nw w V → P (.returned (.tuple #[.slice none 0 0, .int .i64 1])) V) := fun V hb hV => by rw [hP]; exact SpA.bad (okS_no hb) hV
  have HV := tHid (rvalid_any w a2 n2 c2 l hl s)
  cases hv : vld l s with
  | false =>
    have HF : Hid (∀ V, Nw w V → P (.returned (.tuple #[.slice none 0 0, .int .i64 1])) V) := fun V hV => HFb.out V (fun h => by rw [hv] at h; exact Bool.false_ne_true h.2.1) hV
    rw [hv] at HV
    clear HFb hP hd hdn hl hln hv
    go_enter Try.func12, Try.ntmps12
    go_wp2_with (first
      | (go_at_call 14; with_reducible refine HV.out.mono ?_; rintro e w1 ⟨rfl, H1⟩; have H1 := tHid H1))
    first | exact HF.out _ H1.out | (go_ret; exact HF.out _ H1.out)
  | true =>
    rw [hv] at HV
    by_cases hsb : 4194304 < s
    · have HF : Hid (∀ V, Nw w V → P (.returned (.tuple #[.slice none 0 0, .int .i64 1])) V) := fun V hV => HFb.out V (fun h => by omega) hV
      clear HFb hP hd hdn hl hln hv
      go_enter Try.func12, Try.ntmps12
      go_wp2_with (first
        | (go_at_call 14; with_reducible refine HV.out.mono ?_; rintro e w1 ⟨rfl, H1⟩; have H1 := tHid H1))
      first | exact HF.out _ H1.out | (go_ret; exact HF.out _ H1.out)
    · obtain ⟨hs0, _, hvE⟩ := vld_iff.1 hv
      obtain ⟨S, hS⟩ : ∃ S : Nat, s = S := ⟨s.toNat, by omega⟩
      subst hS
      have HA : Hid (∀ x ∈ l, 0 ≤ x.1 ∧ x.1 ≤ x.2 ∧ x.2 ≤ (S : Int)) := fun x hx => by have := vlE_all hvE (Int.le_refl _) x hx; omega
      have hp := hld_le hvE (by omega)
      have HF : Hid (∀ V g m c, hld l = n → Nw w V → w.heap.size ≤ g → Ow g (.slice (some ⟨g, 0, none⟩) m c) (sprd d l (S : Int)) V → P (.returned (.tuple #[.slice (some ⟨g, 0, none⟩) m c, .int .i64 0])) V) := fun V g m c h0 h1 h2 h3 => by rw [hP]; exact SpA.ok (okS_iff.2 ⟨by omega, hv, by omega⟩) h1 g c h2 m h3
      have HMK : Hid (∀ V, Nw w V → ∃ W, (Instr.makeSlice 22 (.int .i64 (S : Int)) (.int .i64 (S : Int))).run Try.prog V = .ok (.slice (some ⟨V.heap.size, 0, none⟩) S S) W ∧ Hid (Ow V.heap.size (.slice (some ⟨V.heap.size, 0, none⟩) S S) (List.replicate S 0#8) W ∧ Nw V W)) := fun V hV => by
        obtain ⟨W, q1, q2, q3⟩ := make_full V S (by omega)
        exact ⟨W, q1, q2, q3⟩
      have HPT : Hid (∀ i, 0 ≤ hld (l.take i) ∧ hld (l.take i) ≤ hld l ∧ hld l ≤ (S : Int)) := fun i => by have := hld_part hvE hs0 i; omega
      have HSP : Hid (∀ i (h : i < l.length) (K F T : Nat), hld (l.take i) = K → l[i].1 = F → l[i].2 = T → spr (List.replicate S 0#8) d (l.take (i + 1)) = lay (spr (List.replicate S 0#8) d (l.take i)) F ((d.drop K).take (T - F)) ∧ hld (l.take (i + 1)) = (K : Int) + ((T : Int) - (F : Int))) := fun i h K F T h1 h2 h3 => by
        have hsn : l.take (i + 1) = l.take i ++ [l[i]] := by rw [List.take_add_one, List.getElem?_eq_getElem h]; rfl
        have hsum := sumN_hld (l.take i) (fun x hx => (HA.out x (List.mem_of_mem_take hx)).2.1)
        rw [h1] at hsum
        rw [hsn, spr_snoc, hld_snoc, h1, h2, h3]
        refine ⟨?_, rfl⟩
        rw [Int.toNat_natCast, show ((T : Int) - (F : Int)).toNat = T - F by omega]
        congr 3
        omega
      have HSL : Hid (∀ i, (spr (List.replicate S 0#8) d (l.take i)).length = S) := fun i => by
        rw [spr_len _ _ _ (fun x hx => by rw [List.length_replicate]; exact HA.out x (List.mem_of_mem_take hx)), List.length_replicate]
      have HFn : Hid (∀ V, ¬ hld l = n → Nw w V → P (.returned (.tuple #[.slice none 0 0, .int .i64 1])) V) := fun V h hV => HFb.out V (fun h2 => h (by rw [← hdn]; exact h2.2.2)) hV
      have HSD : Hid (∀ V g, w.heap.size ≤ g → Fr (fun k => k = g) w V → ∀ i (h : i < d.length), ∃ gd o, a = some ⟨gd, o, none⟩ ∧ V.cell? ⟨gd, o + i, none⟩ = some (.int .u8 d[i].toNat)) := fun V g hg hV i h => slx_at (hd.kept hV (fun k hk => by subst hk; exact hX _ hg)) i h
      have HI : Hid (∀ V g, w.heap.size ≤ g → Fr (fun k => k = g) w V → ∀ i (h : i < l.length), ∃ g o, a2 = some ⟨g, o, none⟩ ∧ V.cell? ⟨g, o + i * 2, none⟩ = some (.int .i64 l[i].1) ∧ V.cell? ⟨g, o + i * 2 + 1, none⟩ = some (.int .i64 l[i].2)) := fun V g hg hV i h => by
        exact hl.inG V (hV.mono (fun i hi => .inr (by omega))) i h
      have HLN := tHid hln
      have HDN := tHid hdn
      clear HFb hP hd hdn hl hln hv hvE hX
      have hs4 : ¬ (4194304 : Int) < (S : Int) := hsb
      go_enter Try.func12, Try.ntmps12
      go_upto_region 3 with (first
        | (go_at_call 14; with_reducible refine HV.out.mono ?_; rintro e w1 ⟨rfl, H1⟩; have H1 := tHid H1; obtain ⟨W3, hmk, H3⟩ := HMK.out w1 H1.out))
      go_upto_region 4 with fail
      have HN3 : Hid (Nw w W3) := H1.out.trans H3.out.2
      have hg3 : w.heap.size ≤ w1.heap.size := H1.out.size
      have HO3 := tHid H3.out.1
      generalize w1.heap.size = g at *
      clear HV HMK H1 H3 hmk
      go_upto_region 6 with fail
      go_loopg [9, 10] n2 (fun kx at_ i wr => ∃ (I K : Nat), I ≤ n2 ∧ n2 - I ≤ kx ∧ K ≤ n ∧ at_ = .int .i64 K ∧ i = .int .i64 I ∧ Hid (Nw w wr ∧ hld (l.take I) = K ∧ Ow g (.slice (some ⟨g, 0, none⟩) S S) (spr (List.replicate S 0#8) d (l.take I)) wr))
      case atStart => exact ⟨0, 0, by omega, by omega, by omega, rfl, rfl, HN3.out, rfl, HO3.out⟩
      case round =>
        obtain ⟨I, K, hI, hkx, hKn, rfl, rfl, HL⟩ := hrel
        obtain ⟨hN, hK, hO⟩ := HL.out
        by_cases hlt : I < n2
        · have hlt' : I < l.length := by have := HLN.out; omega
          obtain ⟨gl, ol, hal, x0, x1⟩ := HI.out wr g hg3 hN.any I hlt'
          have hA := HA.out l[I] (List.getElem_mem hlt')
          obtain ⟨F, hF⟩ : ∃ F : Nat, l[I].1 = F := ⟨l[I].1.toNat, by omega⟩
          obtain ⟨T, hT⟩ : ∃ T : Nat, l[I].2 = T := ⟨l[I].2.toNat, by omega⟩
          have hFT : F ≤ T := by omega
          have hTn : T ≤ S := by omega
          obtain ⟨q1, q2⟩ := HSP.out I hlt' K F T hK hF hT
          have hp1 := HPT.out (I + 1)
          have HQ2 : Hid (hld (l.take (I + 1)) = (K : Int) + ((T : Int) - (F : Int)) ∧ hld (l.take (I + 1)) ≤ hld l) := ⟨q2, hp1.2.1⟩
          have HQ1 := tHid q1
          have HXC : Hid (∀ V, Nw w V → ∃ g o, a2 = some ⟨g, o, none⟩ ∧ V.cell? ⟨g, o + I * 2, none⟩ = some (.int .i64 (F : Int)) ∧ V.cell? ⟨g, o + I * 2 + 1, none⟩ = some (.int .i64 (T : Int))) := fun V hV => by rw [← hF, ← hT]; exact HI.out V g hg3 hV.any I hlt'
          rw [hF] at x0
          rw [hT] at x1
          have HOl := tHid (HSL.out I)
          have HN := tHid hN
          have HO := tHid hO
          subst hal
          clear HL hN hO hA hF hT q1 q2 hp1 HPT HSP HI HA HSL hK HN3 HO3
          generalize spr (List.replicate S 0#8) d (l.take I) = out at *
          go_upto_region 9 with fail
          go_loopg [9, 11] T (fun ky at_ k wq => ∃ (k' A : Nat), F + k' ≤ T ∧ T - (F + k') ≤ ky ∧ A = K + k' ∧ A ≤ n ∧ at_ = .int .i64 A ∧ k = .int .i64 ((F + k' : Nat) : Int) ∧ Hid (Nw w wq ∧ Ow g (.slice (some ⟨g, 0, none⟩) S S) (lay out F ((d.drop K).take k')) wq))
          case atStart => exact ⟨0, K, by omega, by omega, rfl, by omega, rfl, rfl, HN.out, by rw [List.take_zero, lay_none]; exact HO.out⟩
          case round =>
            obtain ⟨k', A, hk', hky, hA, hAn, rfl, rfl, HK⟩ := hrel
            obtain ⟨hN2, hO2⟩ := HK.out
            obtain ⟨gl2, ol2, e, y0, y1⟩ := HXC.out wr hN2
            injection e with e
            injection e with e e2
            subst e e2
            by_cases hlt2 : F + k' < T
            · by_cases hAe : A = n
              · have HF2 := tHid (HFn.out wr (fun h => by have h1 := HQ2.out.1; have h2 := HQ2.out.2; omega) hN2)
                have hAi : (A : Int) = (n : Int) := by omega
                obtain ⟨F2, hF2⟩ : ∃ F2, F + k' = F2 := ⟨_, rfl⟩
                rw [hF2] at hlt2 hky hk' ⊢
                clear HF HFn HK hO2 HXC HQ2 HQ1 HN HO HSD hF2 hA
                subst hAe
                go_wp2_with fail
                first | exact HF2.out | (go_ret; exact HF2.out)
              · have hAd : A < d.length := by have := HDN.out; omega
                obtain ⟨gd, od, hda, z0⟩ := HSD.out wr g hg3 hN2.any A hAd
                subst hda
                have hpl : ((d.drop K).take k').length = k' := by rw [List.length_take, List.length_drop]; omega
                have hll : (lay out F ((d.drop K).take k')).length = S := by rw [lay_len _ _ _ (by rw [hpl, HOl.out]; omega), HOl.out]
                obtain ⟨v0, v1⟩ := hO2.at (F + k') (by omega)
                have hput := hO2.put (F + k') (by omega) d[A] (d[A].toNat : Int) rfl
                have hsn := lay_snoc out F ((d.drop K).take k') d[A] (by rw [hpl, HOl.out]; omega)
                rw [hpl] at hsn
                have htk := take_snoc' d K k' (by omega)
                have hAK : d[K + k']'(by omega) = d[A] := by congr 1; omega
                rw [hsn, ← hAK, ← htk, hAK] at hput
                have hni : ¬ ((A : Int) = (n : Int)) := by omega
                obtain ⟨U, hU⟩ : ∃ U, wr.setCell ⟨g, F + k', none⟩ (.int .u8 (d[A].toNat : Int)) = U := ⟨_, rfl⟩
                rw [hU] at hput
                have HP2 : Hid (Nw w U ∧ Ow g (.slice (some ⟨g, 0, none⟩) S S) (lay out F ((d.drop K).take (k' + 1))) U) := ⟨by rw [← hU]; exact hN2.setCell _ _ (.inr hg3), hput⟩
                obtain ⟨F2, hF2⟩ : ∃ F2, F + k' = F2 := ⟨_, rfl⟩
                rw [hF2] at hU hlt2 hky hk' ⊢
                simp only [hF2] at v0 v1
                generalize (lay out F ((d.drop K).take k'))[F2].toNat = yy at *
                generalize d[A].toNat = zz at *
                have HF2 : Hid (F + (k' + 1) = F2 + 1) := by show _ = _; omega
                have hF2S : (F2 : Int) < (S : Int) := by omega
                have HAA := tHid hA
                clear HF HFn HK hO2 HXC HQ2 HQ1 HN HO HSD hF2 hput hsn htk hAK hpl hll hN2 hA
                go_wp2_with fail
                go_roundg (T - (F2 + 1))
                case measure => omega
                case rel => exact ⟨k' + 1, A + 1, by have := HF2.out; omega, by have := HF2.out; omega, by have := HAA.out; omega, by omega, by first | rfl | (congr 1), by rw [HF2.out]; first | rfl | (congr 1), HP2⟩
            · have hkT : k' = T - F := by omega
              have HNX : Hid (Nw w wr ∧ hld (l.take (I + 1)) = (A : Int) ∧ Ow g (.slice (some ⟨g, 0, none⟩) S S) (spr (List.replicate S 0#8) d (l.take (I + 1))) wr) := ⟨hN2, by have := HQ2.out.1; omega, by rw [HQ1.out, ← hkT]; exact hO2⟩
              have hFT2 : F + k' = T := by omega
              rw [hFT2]
              clear HF HFn HK hO2 HXC HQ2 HQ1 HN HO HSD hN2 hA hkT hFT2 hlt2 hky hk'
              go_wp2_with fail
              go_roundg (n2 - (I + 1))
              case measure => omega
              case rel => exact ⟨I + 1, A, by omega, by omega, by omega, rfl, by first | rfl | (congr 1), HNX⟩
        · rw [List.take_of_length_le (by have := HLN.out; omega)] at hO hK
          obtain rfl : I = n2 := by omega
          by_cases hKe : K = n
          · have HF2 := tHid (HF.out wr g S S (by omega) hN hg3 hO)
            subst hKe
            clear HF HFn HL hO hK hN HPT HSP HI HA HSL HSD HN3 HO3
            go_wp2_with fail
            first | exact HF2.out | (go_ret; exact HF2.out)
          · have HF2 := tHid (HFn.out wr (by omega) hN)
            have hni : ¬ ((K : Int) = (n : Int)) := by omega
            clear HF HFn HL hO hK hN HPT HSP HI HA HSL HSD HN3 HO3
            go_wp2_with fail
            first | exact HF2.out | (go_ret; exact HF2.out)
end Go.Proofs.Ytffhpoilifgcdaa

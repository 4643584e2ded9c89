import Derived.Test.YtincbbnppcpfpaaDoorTbk
namespace Go.Proofs.YtincbbnppcpfpaaDoor
open Go.RowKit
set_option linter.unusedVariables false
variable {m rb : Nat} {b : List By} {w : World}
/-- What a reader that took all of b tells from here on. -/
theorem fdl_calls {vo : Value} {wr : World} (h : FdL w b m rb b.length vo wr) (hbl : b.length ≤ 140737488351232) (V : World) (hV : Nw wr V) :
    Calls Tryd.prog 20 #[.pointer (some ⟨rb, 0, none⟩)] V (fun e w' => e = .returned (.bool (decide ((rf m b).2.2 = 0))) ∧ V = w') ∧
    Calls Tryd.prog 22 #[.pointer (some ⟨rb, 0, none⟩)] V (fun e w' => (∃ z : Nat, e = .returned (.int .i64 z) ∧ ((rf m b).2.2 = 0 → z = b.length - ((rf m b).2.1.n + 7) / 8) ∧ ((rf m b).2.2 = 4 → z = b.length)) ∧ Nw V w') ∧
    Calls Tryd.prog 21 #[.pointer (some ⟨rb, 0, none⟩)] V (fun e w' => ∃ a c, e = .returned (.slice a (restOf m b).length c) ∧ Old w' (.slice a (restOf m b).length c) (restOf m b) ∧ Nw V w') ∧
    Old V vo (rf m b).1.out ∧ ((rf m b).2.2 = 0 → (restOf m b).length = ((rf m b).2.1.n + 7) / 8 ∧ ((rf m b).2.1.n + 7) / 8 ≤ b.length) := by
  obtain ⟨B, tk, sv, kv, og, oo, h1, h2, h3, h4, h5⟩ := h
  rw [List.take_length] at h1 h2
  have hR := h1.keep hV (fun _ _ e => e) (fun _ _ e => e)
  have hn := rf_n m b
  have hlf : lft b (pos m b) = ((rf m b).2.1.n + 7) / 8 := by
    unfold lft pos
    congr 2; omega
  have hrl : (rf m b).2.2 = 0 → (restOf m b).length = ((rf m b).2.1.n + 7) / 8 := fun e => by
    unfold restOf
    rw [if_pos e, kl_len (.inr e), hlf]
  refine ⟨kdone_any hR, (ksize_any hR hbl).mono ?_, (krest_any hR hbl).mono ?_, og_old (h2.nw hV), fun e => ⟨hrl e, by omega⟩⟩
  · rintro e w' ⟨rfl, hN⟩
    refine ⟨⟨_, rfl, fun e => ?_, fun e => ?_⟩, hN⟩
    · unfold sizeOf'
      rw [if_pos e, hR.tl (.inr e), kl_len (.inr e), hlf]
    · unfold sizeOf'
      rw [if_neg (by omega), hR.tl (.inl e)]
  · rintro e w' ⟨r, rfl, hM, hN⟩
    obtain ⟨a, c, e1, _, _⟩ := hM.sl.form
    subst e1
    exact ⟨a, c, rfl, hM.old, hN⟩
/-- What a reader that took all of b tells, from a world on. -/
def Tl (m : Nat) (b : List By) (rb : Nat) (vo : Value) (w3 : World) : Prop := ∀ V, Nw w3 V →
    Calls Tryd.prog 20 #[.pointer (some ⟨rb, 0, none⟩)] V (fun e w' => e = .returned (.bool (decide ((rf m b).2.2 = 0))) ∧ V = w') ∧
    Calls Tryd.prog 22 #[.pointer (some ⟨rb, 0, none⟩)] V (fun e w' => (∃ z : Nat, e = .returned (.int .i64 z) ∧ ((rf m b).2.2 = 0 → z = b.length - ((rf m b).2.1.n + 7) / 8) ∧ ((rf m b).2.2 = 4 → z = b.length)) ∧ Nw V w') ∧
    Calls Tryd.prog 21 #[.pointer (some ⟨rb, 0, none⟩)] V (fun e w' => ∃ a c, e = .returned (.slice a (restOf m b).length c) ∧ Old w' (.slice a (restOf m b).length c) (restOf m b) ∧ Nw V w') ∧
    Old V vo (rf m b).1.out ∧ ((rf m b).2.2 = 0 → (restOf m b).length = ((rf m b).2.1.n + 7) / 8 ∧ ((rf m b).2.1.n + 7) / 8 ≤ b.length)
theorem Tl.nw {m : Nat} {b : List By} {rb : Nat} {vo : Value} {w3 w4 : World} (h : Tl m b rb vo w3) (f : Nw w3 w4) : Tl m b rb vo w4 := fun V hV => h V (f.trans hV)
/-- The two calls of fed. -/
theorem two_fed (w : World) (ab : Option Addr) (cb : Nat) (b : List By) (m : Nat) (hml : m ≤ 4194304) (ac : Option Addr) (cc : Nat) (cs : List Int) (hb : Old w (.slice ab b.length cb) b) (hc : SlR RI (fun k => w.heap.size ≤ k) (.slice ac cs.length cc) cs w) (hcw : ∀ z ∈ cs, -9223372036854775808 ≤ z ∧ z < 9223372036854775808) (hbl : b.length ≤ 140737488351232) (hcl : cs.length ≤ 17592186043904) (hT : Tab w) :
    Calls Tryd.prog 19 #[.slice ab b.length cb, .int .i64 m, .slice ac cs.length cc] w fun e w2 => ∃ oa on oc rb, e = .returned (.tuple #[.slice oa on oc, .int .i64 (whyOf m b : Nat), .pointer (some ⟨rb, 0, none⟩)]) ∧ Hid (Calls Tryd.prog 19 #[.slice ab b.length cb, .int .i64 m, .slice none 0 0] w2 fun e w3 => ∃ pa pn pc sb, e = .returned (.tuple #[.slice pa pn pc, .int .i64 (whyOf m b : Nat), .pointer (some ⟨sb, 0, none⟩)]) ∧ Hid (Nw w w3 ∧ Tl m b rb (.slice oa on oc) w3 ∧ Tl m b sb (.slice pa pn pc) w3)) := by
  refine (fed_any w ab cb b hb m hml ac cc cs hc hcw hbl hcl hT).mono ?_
  rintro e w2 ⟨oa, on, oc, rb, rfl, h2⟩
  refine ⟨oa, on, oc, rb, rfl, ?_⟩
  have hN2 : Nw w w2 := by
    obtain ⟨_, _, _, _, _, _, _, _, _, _, hh⟩ := h2
    exact hh
  have t2 : Tl m b rb (.slice oa on oc) w2 := fun V hV => fdl_calls h2 hbl V hV
  show Calls _ _ _ _ _
  refine (fed_any w2 ab cb b (Sl.later hb hN2) m hml none 0 [] (.inl ⟨none, rfl, rfl⟩) (fun z hz => by cases hz) hbl (by simp) (hT.kept hN2 (fun h => h))).mono ?_
  rintro e w3 ⟨pa, pn, pc, sb, rfl, h3⟩
  have hN3 : Nw w2 w3 := by
    obtain ⟨_, _, _, _, _, _, _, _, _, _, hh⟩ := h3
    exact hh
  exact ⟨pa, pn, pc, sb, rfl, hN2.trans hN3, t2.nw hN3, fun V hV => fdl_calls h3 hbl V hV⟩
end Go.Proofs.YtincbbnppcpfpaaDoor

namespace Go.Proofs.YtincbbnppcpfpaaDoor
open Go.RowKit
set_option linter.unusedVariables false
set_option maxHeartbeats 64000000 in
set_option maxRecDepth 100000 in
theorem ip_walk (w : World) (ab : Option Addr) (cb : Nat) (b : List By) (most : Int) (ac : Option Addr) (cc : Nat) (cs : List Int) (hb : Old w (.slice ab b.length cb) b) (hc : SlR RI (fun k => w.heap.size ≤ k) (.slice ac cs.length cc) cs w) (hcw : ∀ z ∈ cs, -9223372036854775808 ≤ z ∧ z < 9223372036854775808) (hbl : b.length ≤ 140737488351232) (hcl : cs.length ≤ 17592186043904) (hT : Tab w) :
    Calls Tryd.prog 6 #[.slice ab b.length cb, .int .i64 most, .slice ac cs.length cc] w fun e w' => e = .returned (.bool true) ∧ Nw w w' := by
  obtain ⟨P, hP⟩ : ∃ P : Ending → World → Prop, P = fun e w' => e = .returned (.bool true) ∧ Nw w w' := ⟨_, rfl⟩
  rw [← hP]
  have HT : Hid (∀ V, Nw w V → P (.returned (.bool true)) V) := fun V hV => by rw [hP]; exact ⟨rfl, hV⟩
  clear hP
  by_cases hm : most < 0 ∨ 4194304 < most
  · have HL : Hid (Calls Tryd.prog 17 #[] w fun e w1 => e = .returned (.bool true) ∧ Hid (Calls Tryd.prog 18 #[.int .i64 most] w1 fun e w2 => e = .returned (.tuple #[.pointer none, .int .i64 1]) ∧ Hid (Nw w w2))) := by
      show Calls _ _ _ _ _
      refine (ilives_any w hT).mono ?_
      rintro e w1 ⟨rfl, hN1⟩
      refine ⟨rfl, ?_⟩
      show Calls _ _ _ _ _
      refine (inew_any w1 most (hT.kept hN1 (fun h => h))).mono ?_
      rintro e w2 ⟨h1, _⟩
      obtain ⟨q1, rfl⟩ := h1 hm
      exact ⟨q1, hN1⟩
    clear hT hb hc hcw
    generalize b.length = L at *
    generalize cs.length = N at *
    rcases hm with hm | hm
    · go_enter Tryd.func6, Tryd.ntmps6
      go_wp2_with (first | (go_at_call 17; with_reducible refine HL.out.mono ?_; rintro e w1 ⟨rfl, H2⟩) | (go_at_call 18; with_reducible refine H2.out.mono ?_; rintro e w2 ⟨rfl, K2⟩))
      exact HT.out _ K2.out
    · have h0 : ¬ most < 0 := by omega
      go_enter Tryd.func6, Tryd.ntmps6
      go_wp2_with (first | (go_at_call 17; with_reducible refine HL.out.mono ?_; rintro e w1 ⟨rfl, H2⟩) | (go_at_call 18; with_reducible refine H2.out.mono ?_; rintro e w2 ⟨rfl, K2⟩))
      exact HT.out _ K2.out
  · obtain ⟨m, rfl⟩ : ∃ m : Nat, most = m := ⟨most.toNat, by omega⟩
    have hml : m ≤ 4194304 := by omega
    have z0 : ¬ (m : Int) < 0 := by omega
    have z1 : ¬ (4194304 : Int) < (m : Int) := by omega
    have HL : Hid (Calls Tryd.prog 17 #[] w fun e w1 => e = .returned (.bool true) ∧ Hid (Calls Tryd.prog 19 #[.slice ab b.length cb, .int .i64 m, .slice ac cs.length cc] w1 fun e w2 => ∃ oa on oc rb, e = .returned (.tuple #[.slice oa on oc, .int .i64 (whyOf m b : Nat), .pointer (some ⟨rb, 0, none⟩)]) ∧ Hid (Calls Tryd.prog 19 #[.slice ab b.length cb, .int .i64 m, .slice none 0 0] w2 fun e w3 => ∃ pa pn pc sb, e = .returned (.tuple #[.slice pa pn pc, .int .i64 (whyOf m b : Nat), .pointer (some ⟨sb, 0, none⟩)]) ∧ Hid (Nw w w3 ∧ Tl m b rb (.slice oa on oc) w3 ∧ Tl m b sb (.slice pa pn pc) w3)))) := by
      show Calls _ _ _ _ _
      refine (ilives_any w hT).mono ?_
      rintro e w1 ⟨rfl, hN1⟩
      refine ⟨rfl, ?_⟩
      show Calls _ _ _ _ _
      refine (two_fed w1 ab cb b m hml ac cc cs (Sl.later hb hN1) ((hc.nw hN1).mono (fun g hg => Nat.le_trans hN1.size hg)) hcw hbl hcl (hT.kept hN1 (fun h => h))).mono ?_
      rintro e w2 ⟨oa, on, oc, rb, rfl, h2⟩
      refine ⟨oa, on, oc, rb, rfl, ?_⟩
      show Calls _ _ _ _ _
      refine h2.out.mono ?_
      rintro e w3 ⟨pa, pn, pc, sb, rfl, h3⟩
      exact ⟨pa, pn, pc, sb, rfl, hN1.trans h3.out.1, h3.out.2⟩
    have HB : Hid (Old w (.slice ab b.length cb) b ∧ Tab w) := ⟨hb, hT⟩
    clear hT hb hc hcw
    obtain ⟨X, hX⟩ : ∃ X, X = whyOf m b := ⟨_, rfl⟩
    rw [← hX] at HL
    obtain ⟨L, hL⟩ : ∃ L, b.length = L := ⟨_, rfl⟩
    have HLb : Hid (b.length = L) := hL
    have HX : Hid (X = whyOf m b) := hX
    rw [hL] at hbl HL ⊢
    clear hL hX
    generalize cs.length = N at *
    go_enter Tryd.func6, Tryd.ntmps6
    go_upto_region 8 with (first | (go_at_call 17; with_reducible refine HL.out.mono ?_; rintro e w1 ⟨rfl, H2⟩) | (go_at_call 19; with_reducible refine H2.out.mono ?_; rintro e w2 ⟨oa, on, oc, rb, rfl, H3⟩) | (go_at_call 19; with_reducible refine H3.out.mono ?_; rintro e w3 ⟨pa, pn, pc, sb, rfl, K3⟩))
    clear HL H2 H3
    go_cut [85] (fun x wx => x = .bool false ∧ Hid (Nw w3 wx))
    case first =>
      clear HT HB HX HLb
      obtain ⟨D, hD⟩ : ∃ D, D = decide ((rf m b).2.2 = 0) := ⟨_, rfl⟩
      obtain ⟨S, hS⟩ : ∃ S, S = str (rf m b).1.out := ⟨_, rfl⟩
      obtain ⟨S2, hS2⟩ : ∃ S2, S2 = str (restOf m b) := ⟨_, rfl⟩
      obtain ⟨R, hR⟩ : ∃ R, R = (restOf m b).length := ⟨_, rfl⟩
      have f1 : (convert 22 9 (.slice oa on oc)).run Tryd.prog w3 = .ok (.string S) w3 := by rw [hS]; exact conv_any (K3.out.2.1 w3 (Fr.refl _ _)).2.2.2.1
      have f2 : (convert 22 9 (.slice pa pn pc)).run Tryd.prog w3 = .ok (.string S) w3 := by rw [hS]; exact conv_any (K3.out.2.2 w3 (Fr.refl _ _)).2.2.2.1
      have f3 : (convert 22 9 (.slice oa on oc)).run Tryd.prog w3.drew = .ok (.string S) w3.drew := by rw [hS]; exact conv_any (K3.out.2.1 w3.drew (Fr.refl _ _).drew).2.2.2.1
      have f4 : (convert 22 9 (.slice pa pn pc)).run Tryd.prog w3.drew = .ok (.string S) w3.drew := by rw [hS]; exact conv_any (K3.out.2.2 w3.drew (Fr.refl _ _).drew).2.2.2.1
      have HD1 : Hid (∀ V, Nw w3 V → Calls Tryd.prog 20 #[.pointer (some ⟨rb, 0, none⟩)] V fun e w' => e = .returned (.bool D) ∧ V = w') := fun V hV => by rw [hD]; exact (K3.out.2.1 V hV).1
      have HD2 : Hid (∀ V, Nw w3 V → Calls Tryd.prog 20 #[.pointer (some ⟨sb, 0, none⟩)] V fun e w' => e = .returned (.bool D) ∧ V = w') := fun V hV => by rw [hD]; exact (K3.out.2.2 V hV).1
      have HR1 : Hid (∀ V, Nw w3 V → Calls Tryd.prog 21 #[.pointer (some ⟨rb, 0, none⟩)] V fun e w4 => ∃ a4 c4, e = .returned (.slice a4 R c4) ∧ (convert 22 9 (.slice a4 R c4)).run Tryd.prog w4 = .ok (.string S2) w4 ∧ Hid (Nw w3 w4) ∧ Hid (Calls Tryd.prog 21 #[.pointer (some ⟨sb, 0, none⟩)] w4 fun e w5 => ∃ a5 c5, e = .returned (.slice a5 R c5) ∧ (convert 22 9 (.slice a5 R c5)).run Tryd.prog w5 = .ok (.string S2) w5 ∧ (convert 22 9 (.slice a4 R c4)).run Tryd.prog w5 = .ok (.string S2) w5 ∧ Hid (Nw w3 w5))) := fun V hV => by
        rw [hR, hS2]
        refine (K3.out.2.1 V hV).2.2.1.mono ?_
        rintro e w4 ⟨a4, c4, rfl, hO4, hN4⟩
        refine ⟨a4, c4, rfl, conv_any hO4, hV.trans hN4, ?_⟩
        show Calls _ _ _ _ _
        refine (K3.out.2.2 w4 (hV.trans hN4)).2.2.1.mono ?_
        rintro e w5 ⟨a5, c5, rfl, hO5, hN5⟩
        exact ⟨a5, c5, rfl, conv_any hO5, conv_any (Sl.later hO4 hN5), (hV.trans hN4).trans hN5⟩
      have HSS : Hid (∀ V, Nw w3 V → (convert 22 9 (.slice oa on oc)).run Tryd.prog V = .ok (.string S) V ∧ (convert 22 9 (.slice pa pn pc)).run Tryd.prog V = .ok (.string S) V ∧ Hid (Nw w3 V)) := fun V hV => by
        rw [hS]
        exact ⟨conv_any (K3.out.2.1 V hV).2.2.2.1, conv_any (K3.out.2.2 V hV).2.2.2.1, hV⟩
      clear K3 hD hS hS2 hR f1 f2 f3 f4
      go_region_held (fun W => (convert 22 9 (.slice oa on oc)).run Tryd.prog W = .ok (.string S) W ∧ (convert 22 9 (.slice pa pn pc)).run Tryd.prog W = .ok (.string S) W ∧ Hid (Nw w3 W))
        (first | assumption | exact HSS.out _ (Fr.refl _ _).drew | exact HSS.out _ K5.out | exact HSS.out _ K4.out)
        (first
          | (go_at_call 20; with_reducible refine (HD1.out _ ?_).mono ?_; (first | exact (Fr.refl _ _).drew | exact Fr.refl _ _); rintro e w4 ⟨rfl, rfl⟩)
          | (go_at_call 20; with_reducible refine (HD2.out _ ?_).mono ?_; (first | exact (Fr.refl _ _).drew | exact Fr.refl _ _); rintro e w4 ⟨rfl, rfl⟩)
          | (go_at_call 21; with_reducible refine (HR1.out _ ?_).mono ?_; (first | exact (Fr.refl _ _).drew | exact Fr.refl _ _); rintro e w4 ⟨a4, c4, rfl, k1, K4, HR2⟩)
          | (go_at_call 21; with_reducible refine HR2.out.mono ?_; rintro e w5 ⟨a5, c5, rfl, k2, k3, K5⟩))
      all_goals go_wp2_with fail
      all_goals go_meet
      all_goals exact ⟨rfl, K5⟩
    case rest =>
    obtain ⟨rfl, HCUT⟩ := hcut
    have hN3 : Nw w wc := K3.out.1.trans HCUT.out
    have t1 : Tl m b rb (.slice oa on oc) wc := K3.out.2.1.nw HCUT.out
    have t2 : Tl m b sb (.slice pa pn pc) wc := K3.out.2.2.nw HCUT.out
    have HDE : Hid (∃ g1 c1 W1, Hid (∀ ty, (Builtin.append_ #[22, 22] ty #[.slice (some ⟨wc.heap.size, 0, none⟩) 0 0, .slice ab L cb]).run Tryd.prog (wc.alloc (.cells #[] 5)) = .ok (.slice (some ⟨g1, 0, none⟩) L c1) W1) ∧ Hid (Calls Tryd.prog 10 #[.slice (some ⟨g1, 0, none⟩) L c1, .int .i64 m] W1 fun e w4 => ∃ a4 c4, e = .returned (.tuple #[.slice a4 (idec b m).1.length c4, .int .i64 (idec b m).2.1, .int .i64 (idec b m).2.2]) ∧ (convert 22 9 (.slice a4 (idec b m).1.length c4)).run Tryd.prog w4 = .ok (.string (str (idec b m).1)) w4 ∧ Hid (Nw wc w4))) := by
      obtain ⟨hb, hT⟩ := HB.out
      obtain ⟨g1, c1, W1, hap, hO, _, hNa⟩ := copyB wc _ b (Sl.later hb hN3) (by rw [HLb.out]; omega)
      rw [HLb.out] at hap hO
      refine ⟨g1, c1, W1, hap, ?_⟩
      show Calls _ _ _ _ _
      refine (idecode_any W1 _ b m hO.old (by rw [HLb.out]; omega) (hT.kept (hN3.trans hNa) (fun h => h))).mono ?_
      rintro e w4 ⟨a4, c4, rfl, hM4, hN4⟩
      exact ⟨a4, c4, rfl, conv_any hM4.old, hNa.trans hN4⟩
    obtain ⟨g1, c1, W1, HAP, HD⟩ := HDE.out
    have HT1 : Hid (Tl m b rb (.slice oa on oc) wc) := t1
    have HT2 : Hid (Tl m b sb (.slice pa pn pc) wc) := t2
    have HNW : Hid (Nw w wc) := hN3
    clear t1 t2 hN3 HDE HB K3 HCUT
    rw [idec_rf hml] at HD
    obtain ⟨y, hy⟩ : ∃ y, y = (rf m b).2.2 := ⟨_, rfl⟩
    have hXy : X = if y = 4 then 0 else y := by rw [HX.out, whyOf, ← hy]
    rw [← hy] at HD
    have HY : Hid (y = (rf m b).2.2) := hy
    clear hy HX
    by_cases hy0 : y = 0
    · rw [if_pos hy0] at HD
      simp only at HD
      obtain rfl : X = 0 := by rw [hXy, hy0]; rfl
      have h00 : (rf m b).2.2 = 0 := by rw [← HY.out, hy0]
      obtain ⟨q1, q2⟩ := (HT1.out wc (Fr.refl _ _)).2.2.2.2 h00
      obtain ⟨k, hk⟩ : ∃ k, k = ((rf m b).2.1.n + 7) / 8 := ⟨_, rfl⟩
      obtain ⟨n, hn⟩ : ∃ n, n = b.length - ((rf m b).2.1.n + 7) / 8 := ⟨_, rfl⟩
      rw [HLb.out] at HD hn q2
      rw [← hn] at HD
      rw [← hk] at q1 q2 hn
      obtain ⟨OL, hOL⟩ : ∃ OL, OL = (rf m b).1.out.length := ⟨_, rfl⟩
      obtain ⟨S, hS⟩ : ∃ S, S = str (rf m b).1.out := ⟨_, rfl⟩
      rw [← hOL, ← hS] at HD
      have HD2 : Hid (Calls Tryd.prog 10 #[.slice (some ⟨g1, 0, none⟩) L c1, .int .i64 m] W1 fun e w4 => ∃ a4 c4, e = .returned (.tuple #[.slice a4 OL c4, .int .i64 n, .int .i64 0]) ∧ (convert 22 9 (.slice a4 OL c4)).run Tryd.prog w4 = .ok (.string S) w4 ∧ (convert 22 9 (.slice oa on oc)).run Tryd.prog w4 = .ok (.string S) w4 ∧ Hid (Calls Tryd.prog 20 #[.pointer (some ⟨rb, 0, none⟩)] w4 fun e w' => e = .returned (.bool true) ∧ w4 = w') ∧ Hid (Calls Tryd.prog 22 #[.pointer (some ⟨rb, 0, none⟩)] w4 fun e w5 => e = .returned (.int .i64 n) ∧ Hid (Calls Tryd.prog 22 #[.pointer (some ⟨sb, 0, none⟩)] w5 fun e w6 => e = .returned (.int .i64 n) ∧ Hid (Calls Tryd.prog 21 #[.pointer (some ⟨rb, 0, none⟩)] w6 fun e w7 => ∃ a7 c7, e = .returned (.slice a7 k c7) ∧ Hid (Nw w w7))))) := by
        show Calls _ _ _ _ _
        refine HD.out.mono ?_
        rintro e w4 ⟨a4, c4, rfl, h5, h6⟩
        obtain ⟨r1, r2, r3, r4, r5⟩ := HT1.out w4 h6.out
        refine ⟨a4, c4, rfl, h5, by rw [hS]; exact conv_any r4, ?_, ?_⟩
        · show Calls _ _ _ _ _
          refine r1.mono ?_
          rintro e w' ⟨rfl, rfl⟩
          exact ⟨by rw [decide_eq_true h00], rfl⟩
        · show Calls _ _ _ _ _
          refine r2.mono ?_
          rintro e w5 ⟨⟨z, rfl, z1, z2⟩, hN5⟩
          have hz := z1 h00
          rw [HLb.out, ← hk, ← hn] at hz
          subst hz
          refine ⟨rfl, ?_⟩
          show Calls _ _ _ _ _
          refine (HT2.out w5 (h6.out.trans hN5)).2.1.mono ?_
          rintro e w6 ⟨⟨z', rfl, z1', z2'⟩, hN6⟩
          have hz := z1' h00
          rw [HLb.out, ← hk, ← hn] at hz
          subst hz
          refine ⟨rfl, ?_⟩
          show Calls _ _ _ _ _
          refine (HT1.out w6 ((h6.out.trans hN5).trans hN6)).2.2.1.mono ?_
          rintro e w7 ⟨a7, c7, rfl, _, hN7⟩
          rw [q1]
          exact ⟨a7, c7, rfl, ((HNW.out.trans h6.out).trans hN5).trans (hN6.trans hN7)⟩
      have hkn : (L : Int) - (n : Int) = (k : Int) := by omega
      have hnL : n ≤ L := by omega
      have hkL : k ≤ L := by omega
      clear HD HT1 HT2 HNW HY hXy q1 hk hn hOL hS h00 HLb hy0 q2
      go_wp2_with (first
        | (at_builtin; refine Lib.wpList_append_run _ rfl _ _ 22 22 rfl (.slice (some ⟨wc.heap.size, 0, none⟩) 0 0) (.slice ab L cb) (by simp [Act.eval]) (by simp [Act.eval]) _ _ (HAP.out _) ?_)
        | (go_at_call 10; with_reducible refine HD2.out.mono ?_; rintro e w4 ⟨a4, c4, rfl, f1, f2, HE1, HE2⟩)
        | (go_at_call 20; with_reducible refine HE1.out.mono ?_; rintro e w' ⟨rfl, rfl⟩)
        | (go_at_call 22; with_reducible refine HE2.out.mono ?_; rintro e w5 ⟨rfl, HE3⟩)
        | (go_at_call 22; with_reducible refine HE3.out.mono ?_; rintro e w6 ⟨rfl, HE4⟩)
        | (go_at_call 21; with_reducible refine HE4.out.mono ?_; rintro e w7 ⟨a7, c7, rfl, HE5⟩))
      exact HT.out _ HE5.out
    · rw [if_neg hy0] at HD
      simp only [List.length_nil] at HD
      have h00 : (rf m b).2.2 ≠ 0 := by rw [← HY.out]; exact hy0
      by_cases hy4 : y = 4
      · subst hy4
        obtain rfl : X = 0 := by rw [hXy]; rfl
        have h44 : (rf m b).2.2 = 4 := HY.out.symm
        have HD2 : Hid (Calls Tryd.prog 10 #[.slice (some ⟨g1, 0, none⟩) L c1, .int .i64 m] W1 fun e w4 => ∃ a4 c4, e = .returned (.tuple #[.slice a4 0 c4, .int .i64 0, .int .i64 4]) ∧ Hid (Calls Tryd.prog 20 #[.pointer (some ⟨rb, 0, none⟩)] w4 fun e w' => e = .returned (.bool false) ∧ w4 = w') ∧ Hid (Calls Tryd.prog 22 #[.pointer (some ⟨rb, 0, none⟩)] w4 fun e w5 => e = .returned (.int .i64 L) ∧ Hid (Nw w w5))) := by
          show Calls _ _ _ _ _
          refine HD.out.mono ?_
          rintro e w4 ⟨a4, c4, rfl, h5, h6⟩
          obtain ⟨r1, r2, r3, r4, r5⟩ := HT1.out w4 h6.out
          refine ⟨a4, c4, rfl, ?_, ?_⟩
          · show Calls _ _ _ _ _
            refine r1.mono ?_
            rintro e w' ⟨rfl, rfl⟩
            exact ⟨by rw [decide_eq_false h00], rfl⟩
          · show Calls _ _ _ _ _
            refine r2.mono ?_
            rintro e w5 ⟨⟨z, rfl, z1, z2⟩, hN5⟩
            have hz := z2 h44
            rw [HLb.out] at hz
            subst hz
            exact ⟨rfl, (HNW.out.trans h6.out).trans hN5⟩
        clear HD HT1 HT2 HNW HY hXy h00 h44 HLb hy0
        go_wp2_with (first
          | (at_builtin; refine Lib.wpList_append_run _ rfl _ _ 22 22 rfl (.slice (some ⟨wc.heap.size, 0, none⟩) 0 0) (.slice ab L cb) (by simp [Act.eval]) (by simp [Act.eval]) _ _ (HAP.out _) ?_)
          | (go_at_call 10; with_reducible refine HD2.out.mono ?_; rintro e w4 ⟨a4, c4, rfl, HE1, HE2⟩)
          | (go_at_call 20; with_reducible refine HE1.out.mono ?_; rintro e w' ⟨rfl, rfl⟩)
          | (go_at_call 22; with_reducible refine HE2.out.mono ?_; rintro e w5 ⟨rfl, HE3⟩))
        exact HT.out _ HE3.out
      · obtain rfl : X = y := by rw [hXy, if_neg hy4]
        have HD2 : Hid (Calls Tryd.prog 10 #[.slice (some ⟨g1, 0, none⟩) L c1, .int .i64 m] W1 fun e w4 => ∃ a4 c4, e = .returned (.tuple #[.slice a4 0 c4, .int .i64 0, .int .i64 X]) ∧ Hid (Calls Tryd.prog 20 #[.pointer (some ⟨rb, 0, none⟩)] w4 fun e w' => e = .returned (.bool false) ∧ w4 = w') ∧ Hid (Nw w w4)) := by
          show Calls _ _ _ _ _
          refine HD.out.mono ?_
          rintro e w4 ⟨a4, c4, rfl, h5, h6⟩
          obtain ⟨r1, r2, r3, r4, r5⟩ := HT1.out w4 h6.out
          refine ⟨a4, c4, rfl, ?_, HNW.out.trans h6.out⟩
          show Calls _ _ _ _ _
          refine r1.mono ?_
          rintro e w' ⟨rfl, rfl⟩
          exact ⟨by rw [decide_eq_false h00], rfl⟩
        have hz0 : ((X : Int) == 0) = false := by simp only [beq_eq_false_iff_ne, ne_eq]; omega
        have hz4 : ((X : Int) == 4) = false := by simp only [beq_eq_false_iff_ne, ne_eq]; omega
        clear HD HT1 HT2 HNW HY hXy h00 HLb hy0 hy4
        go_wp2_with (first
          | (at_builtin; refine Lib.wpList_append_run _ rfl _ _ 22 22 rfl (.slice (some ⟨wc.heap.size, 0, none⟩) 0 0) (.slice ab L cb) (by simp [Act.eval]) (by simp [Act.eval]) _ _ (HAP.out _) ?_)
          | (go_at_call 10; with_reducible refine HD2.out.mono ?_; rintro e w4 ⟨a4, c4, rfl, HE1, HE2⟩)
          | (go_at_call 20; with_reducible refine HE1.out.mono ?_; rintro e w' ⟨rfl, rfl⟩))
        exact HT.out _ HE2.out
end Go.Proofs.YtincbbnppcpfpaaDoor

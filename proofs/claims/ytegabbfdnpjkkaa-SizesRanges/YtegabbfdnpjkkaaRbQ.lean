import Derived.Test.YtegabbfdnpjkkaaRbP
import Derived.Deep.DeepCutAuto
import Derived.BigQuiet
namespace Go.Proofs.Ytegabbfdnpjkkaa
open Go.RowKit
set_option linter.unusedVariables false
set_option linter.unusedSimpArgs false

theorem st_start (w : World) : St w w.heap.size [] (.slice (some ⟨w.heap.size + 1, 0, none⟩) 0 0) ((w.alloc (.cells #[.slice none 0 0] 47)).alloc (.cells #[] 49)) := by
  have hs := SVal.lit0 (w.alloc (.cells #[.slice none 0 0] 47))
  rw [World.size_alloc] at hs
  refine ⟨none, RngB.nw (w := w.alloc (.cells #[.slice none 0 0] 47)) ⟨.slice none 0 0, ?_, .inl ⟨rfl, rfl, rfl⟩, (fun h => by cases h)⟩ (by ((repeat (first | exact Fr.refl _ _ | apply Fr.drew | apply Fr.drewN | apply Fr.alloc | refine Fr.setCell ?_ _ _ (.inr (by simp)))); done)), hs, ?_, (fun g hg => by cases hg), Nat.le_refl _, by ((repeat (first | exact Fr.refl _ _ | apply Fr.drew | apply Fr.drewN | apply Fr.alloc | refine Fr.setCell ?_ _ _ (.inr (by simp)))); done), Good.nil, by simp⟩
  · exact Array.getElem?_push_size
  · intro k hk
    have : w.heap.size + 1 = k := by injection hk
    exact ⟨(fun h => by cases h), by omega⟩

set_option maxHeartbeats 40000000 in
set_option maxRecDepth 100000 in
theorem ran_walk (lb lo len cap : Nat) (Ck : Nat → Bool) (Xs Ys : Nat → Rg) (w : World) (hl : len ≤ maxLen) (hlb : lb < w.heap.size)
    (h0 : ∀ i, i < len → w.cell? ⟨lb, lo + i * 5, none⟩ = some (.bool (Ck i))) (h1 : ∀ i, i < len → w.cell? ⟨lb, lo + i * 5 + 1, none⟩ = some (.int .i64 (Xs i).1)) (h2 : ∀ i, i < len → w.cell? ⟨lb, lo + i * 5 + 2, none⟩ = some (.int .i64 (Xs i).2))
    (h3 : ∀ i, i < len → w.cell? ⟨lb, lo + i * 5 + 3, none⟩ = some (.int .i64 (Ys i).1)) (h4 : ∀ i, i < len → w.cell? ⟨lb, lo + i * 5 + 4, none⟩ = some (.int .i64 (Ys i).2))
    (hx : ∀ i, i < len → (Xs i).2 ≤ 9223372036854775807) (hy : ∀ i, i < len → (Ys i).2 ≤ 9223372036854775807) :
    Calls Try.prog 6 #[.slice (some ⟨lb, lo, none⟩) len cap] w fun e w' => e = .returned (.bool true) ∧ Nw w w' := by
  have HST0 : Hid (St w w.heap.size [] (.slice (some ⟨w.heap.size + 1, 0, none⟩) 0 0) ((w.alloc (.cells #[.slice none 0 0] 47)).alloc (.cells #[] 49))) := st_start w
  have HX : Hid (∀ i, i < len → (Xs i).2 ≤ 9223372036854775807) := hx
  have HY : Hid (∀ i, i < len → (Ys i).2 ≤ 9223372036854775807) := hy
  have CEL : Hid (∀ i W, i < len → Nw w W → W.cell? ⟨lb, lo + i * 5, none⟩ = some (.bool (Ck i)) ∧ W.cell? ⟨lb, lo + i * 5 + 1, none⟩ = some (.int .i64 (Xs i).1) ∧ W.cell? ⟨lb, lo + i * 5 + 2, none⟩ = some (.int .i64 (Xs i).2) ∧ W.cell? ⟨lb, lo + i * 5 + 3, none⟩ = some (.int .i64 (Ys i).1) ∧ W.cell? ⟨lb, lo + i * 5 + 4, none⟩ = some (.int .i64 (Ys i).2)) :=
    fun i W hi hW => ⟨hW.cell (h0 i hi), hW.cell (h1 i hi), hW.cell (h2 i hi), hW.cell (h3 i hi), hW.cell (h4 i hi)⟩
  unfold maxLen at hl
  clear h0 h1 h2 h3 h4 hx hy
  go_enter Try.func6, Try.ntmps6
  go_wp2
  obtain ⟨br, hbr⟩ : ∃ br, br = w.heap.size := ⟨_, rfl⟩
  go_loopg [4, 5] len (fun kx d i wr => ∃ (t : Nat) (L : List Rg) (a : Option Addr) (c : Nat), t ≤ len ∧ len - t ≤ kx ∧ i = .int .i64 t ∧ d = .slice a L.length c ∧ Hid (St w w.heap.size L (.slice a L.length c) wr))
  case atStart => exact ⟨0, [], some ⟨w.heap.size + 1, 0, none⟩, 0, Nat.zero_le _, by omega, rfl, rfl, HST0⟩
  case round =>
    obtain ⟨t, L, da, dc, ht, hkx, rfl, rfl, HST⟩ := hrel
    have hNwr : Nw w wr := HST.out.choose_spec.2.2.2.2.2.1
    by_cases hlt : t < len
    · obtain ⟨z0, z1, z2, z3, z4⟩ := CEL.out t wr hlt hNwr
      have hxm := HX.out t hlt
      have hym := HY.out t hlt
      have CELL : Hid (∀ W, Nw w W → W.cell? ⟨lb, lo + t * 5, none⟩ = some (.bool (Ck t)) ∧ W.cell? ⟨lb, lo + t * 5 + 1, none⟩ = some (.int .i64 (Xs t).1) ∧ W.cell? ⟨lb, lo + t * 5 + 2, none⟩ = some (.int .i64 (Xs t).2) ∧ W.cell? ⟨lb, lo + t * 5 + 3, none⟩ = some (.int .i64 (Ys t).1) ∧ W.cell? ⟨lb, lo + t * 5 + 4, none⟩ = some (.int .i64 (Ys t).2)) := fun W hW => CEL.out t W hlt hW
      generalize Xs t = x at z1 z2 hxm CELL
      generalize Ys t = y at z3 z4 hym CELL
      generalize Ck t = ck at z0 CELL
      have hlz : (t : Int) < (len : Int) := by omega
      go_upto_if 28 with fail
      go_cut [4, 6, 7] (fun d e f w' => ∃ (L' : List Rg) (a : Option Addr) (c : Nat) (E : Int), d = .slice a L'.length c ∧ e = .int .i64 E ∧ f = .int .i64 E ∧ Hid (St w w.heap.size L' (.slice a L'.length c) w'))
      case first =>
        obtain ⟨og, s1, s2, s3, s4, s5, s6, s7, s8⟩ := HST.out
        cases ck with
        | true =>
          have HC1 : Hid (Calls Try.prog 22 #[.pointer (some ⟨w.heap.size, 0, none⟩), rv x] wr fun e w' => e = .returned (.int .i64 (refCut L x).2) ∧ Setted w.heap.size og wr w' (refCut L x).1) := lcut w.heap.size og L x wr s1 s7 s8 hxm
          have HC2 : Hid (∀ W, Setted w.heap.size og wr W (refCut L x).1 → Calls Try.prog 23 #[.slice da L.length dc, rv x] W fun e w' => R2Res (blk (.slice da L.length dc)) (refCut L x) W w' e) := fun W hW => rcut_any _ _ L x W (SVal.kept s2 hW.choose_spec.2.1 (fun k hk e => by rcases e with e | e; exact (s3 k hk).2 e; exact (s3 k hk).1 e)) s8
          have HFIN : Hid (∀ w1 w2 v', Setted w.heap.size og wr w1 (refCut L x).1 → OrS (blk (.slice da L.length dc)) (refCut L x).1 w1 w2 v' → St w w.heap.size (refCut L x).1 v' w2) := fun w1 w2 v' h1 h2 => st_step s1 s2 s3 s4 s5 s6 h1 h2 (refCut_good L x s7 s8).1 (refCut_good L x s7 s8).2
          have HFR : Hid (∀ w1, Setted w.heap.size og wr w1 (refCut L x).1 → Nw w w1) := fun w1 h1 => h1.frame s6 s5 s4
          clear s1 s2 s3 s4 s7 s8
          generalize refCut L x = RC at HC1 HC2 HFIN HFR
          go_wp2_with (first | (go_at_call 22; refine HC1.out.mono ?_; rintro e w1 ⟨rfl, hS⟩; obtain ⟨z0, z1, z2, z3, z4⟩ := CELL.out w1 (HFR.out w1 hS); have HS : Hid (Setted w.heap.size og wr w1 RC.1) := hS; clear hS) | (go_at_call 23; refine (HC2.out _ HS.out).mono ?_; rintro e w2 ⟨v', rfl, hO⟩; obtain ⟨va, vc, vo, rfl, vr⟩ := hO; have HO : Hid (OrS (blk (.slice da L.length dc)) RC.1 w1 w2 (.slice va RC.1.length vc)) := ⟨va, vc, vo, rfl, vr⟩; clear vr))
          go_meet
          case rel => exact ⟨RC.1, va, vc, RC.2, rfl, rfl, rfl, HFIN.out _ _ _ HS.out HO.out⟩
        | false =>
          have HC1 : Hid (Calls Try.prog 24 #[.pointer (some ⟨w.heap.size, 0, none⟩), rv x] wr fun e w' => e = .returned (.int .i64 (refAdd L x).2) ∧ Setted w.heap.size og wr w' (refAdd L x).1) := ladd w.heap.size og L x wr s1 s7 s8 hxm
          have HC2 : Hid (∀ W, Setted w.heap.size og wr W (refAdd L x).1 → Calls Try.prog 25 #[.slice da L.length dc, rv x] W fun e w' => R2Res (blk (.slice da L.length dc)) (refAdd L x) W w' e) := fun W hW => add2_any _ _ L x W (SVal.kept s2 hW.choose_spec.2.1 (fun k hk e => by rcases e with e | e; exact (s3 k hk).2 e; exact (s3 k hk).1 e)) s8
          have HFIN : Hid (∀ w1 w2 v', Setted w.heap.size og wr w1 (refAdd L x).1 → OrS (blk (.slice da L.length dc)) (refAdd L x).1 w1 w2 v' → St w w.heap.size (refAdd L x).1 v' w2) := fun w1 w2 v' h1 h2 => st_step s1 s2 s3 s4 s5 s6 h1 h2 (refAdd_good L x s7 s8 hxm).1 (refAdd_good L x s7 s8 hxm).2
          have HFR : Hid (∀ w1, Setted w.heap.size og wr w1 (refAdd L x).1 → Nw w w1) := fun w1 h1 => h1.frame s6 s5 s4
          clear s1 s2 s3 s4 s7 s8
          generalize refAdd L x = RC at HC1 HC2 HFIN HFR
          go_wp2_with (first | (go_at_call 24; refine HC1.out.mono ?_; rintro e w1 ⟨rfl, hS⟩; obtain ⟨z0, z1, z2, z3, z4⟩ := CELL.out w1 (HFR.out w1 hS); have HS : Hid (Setted w.heap.size og wr w1 RC.1) := hS; clear hS) | (go_at_call 25; refine (HC2.out _ HS.out).mono ?_; rintro e w2 ⟨v', rfl, hO⟩; obtain ⟨va, vc, vo, rfl, vr⟩ := hO; have HO : Hid (OrS (blk (.slice da L.length dc)) RC.1 w1 w2 (.slice va RC.1.length vc)) := ⟨va, vc, vo, rfl, vr⟩; clear vr))
          go_meet
          case rel => exact ⟨RC.1, va, vc, RC.2, rfl, rfl, rfl, HFIN.out _ _ _ HS.out HO.out⟩
      case rest =>
        obtain ⟨L', a', c', E, rfl, rfl, rfl, HST'⟩ := hcut
        obtain ⟨wA, hwA⟩ : ∃ z, z = wc := ⟨_, rfl⟩
        subst hwA
        clear HST HST0 hNwr z0 z1 z2 z3 z4 CEL HX HY
        have hNA : Nw w wA := HST'.out.choose_spec.2.2.2.2.2.1
        obtain ⟨_, _, _, z3, z4⟩ := CELL.out wA hNA
        have KEY : Hid (∀ W, Nw wA W → W.cell? ⟨lb, lo + t * 5 + 3, none⟩ = some (.int .i64 y.1) ∧ W.cell? ⟨lb, lo + t * 5 + 4, none⟩ = some (.int .i64 y.2)) := fun W hW => (CELL.out W (hNA.trans hW)).2.2.2
        obtain ⟨G, hG⟩ : ∃ G, G = refGaps L' y := ⟨_, rfl⟩
        have HGG : Hid (G = refGaps L' y) := hG
        have C26 : Hid (∀ W, Nw wA W → Calls Try.prog 26 #[.pointer (some ⟨w.heap.size, 0, none⟩)] W fun e w' => WoRes L' W w' e) := fun W hW => by
          obtain ⟨og, s1, s2, s3, s4, s5, s6, s7, s8⟩ := HST'.out.nw hW
          exact all_any _ og L' W s1 s8
        have C27 : Hid (∀ W, Nw wA W → Calls Try.prog 27 #[.pointer (some ⟨w.heap.size, 0, none⟩), rv y] W fun e w' => WoRes G W w' e) := fun W hW => by
          obtain ⟨og, s1, s2, s3, s4, s5, s6, s7, s8⟩ := HST'.out.nw hW
          rw [hG]
          exact lgaps _ og L' y W s1 s7 s8 hym
        have C28 : Hid (∀ W, Nw wA W → Calls Try.prog 28 #[.slice a' L'.length c', rv y] W fun e w' => WoRes G W w' e) := fun W hW => by
          obtain ⟨og, s1, s2, s3, s4, s5, s6, s7, s8⟩ := HST'.out.nw hW
          rw [hG]
          exact lrgaps _ _ L' y W s2 s7 s8 hym
        have C30 : Hid (∀ W, Nw wA W → Calls Try.prog 30 #[.pointer (some ⟨w.heap.size, 0, none⟩)] W fun e w' => e = .returned (.int .i64 (tot L')) ∧ Nw W w') := fun W hW => by
          obtain ⟨og, s1, s2, s3, s4, s5, s6, s7, s8⟩ := HST'.out.nw hW
          exact total_any _ og L' W s1 s8 s7.fits
        have C31 : Hid (∀ W, Nw wA W → Calls Try.prog 31 #[.slice a' L'.length c'] W fun e w' => e = .returned (.int .i64 (tot L')) ∧ Nw W w') := fun W hW => by
          obtain ⟨og, s1, s2, s3, s4, s5, s6, s7, s8⟩ := HST'.out.nw hW
          exact rtotal_any _ _ L' W s2 (by omega) s7.fits
        have C32 : Hid (∀ W, Nw wA W → Calls Try.prog 32 #[.pointer (some ⟨w.heap.size, 0, none⟩), rv y] W fun e w' => e = .returned (.bool (cb y && decide (G = []))) ∧ Nw W w') := fun W hW => by
          obtain ⟨og, s1, s2, s3, s4, s5, s6, s7, s8⟩ := HST'.out.nw hW
          rw [hG]
          exact lhas _ og L' y W s1 s7 s8 hym
        have C33 : Hid (∀ W, Calls Try.prog 33 #[rv y] W fun e w' => e = .returned (.bool (cb y)) ∧ Nw W w') := fun W => canBe2_any y W
        have HDL : Hid (∀ W, Nw wA W → Sl (.slice a' L'.length c') L' W) := fun W hW => (HST'.out.nw hW).choose_spec.2.1
        have hLl : L'.length ≤ 65536 := HST'.out.choose_spec.2.2.2.2.2.2.2
        have hGl : G.length ≤ 200000 := by
          rw [hG]; unfold refGaps; split
          · rename_i hh
            have := fold_len L' y HST'.out.choose_spec.2.2.2.2.2.2.1 (cb_ok y hh.1 hym hh.2) hLl L'.length
            rw [List.take_length] at this; exact this
          · simp
        generalize tot L' = T at C30 C31
        clear hG CELL
        have tk1 : True := trivial
        have tk2 : True := trivial
        have tk3 : True := trivial
        have tk4 : True := trivial
        go_upto_region 12 with fail
        go_cut [8, 9, 10, 11] (fun va vb vg vh w' => ∃ a1 c1 a2 c2 a3 c3 a4 c4, va = .slice a1 L'.length c1 ∧ vb = .slice a2 L'.length c2 ∧ vg = .slice a3 G.length c3 ∧ vh = .slice a4 G.length c4 ∧ Hid (Four wA w' (.slice a1 L'.length c1) (.slice a2 L'.length c2) (.slice a3 G.length c3) (.slice a4 G.length c4) L' L' G G))
        case first =>
          go_region_held3 (fun w' => w'.cell? ⟨lb, lo + t * 5 + 3, none⟩ = some (.int .i64 y.1) ∧ w'.cell? ⟨lb, lo + t * 5 + 4, none⟩ = some (.int .i64 y.2))
            ((refine KEY.out _ ?_; first | exact K4 | exact K3 | exact K2 | exact K1 | exact (Fr.refl _ _).drew | exact Fr.refl _ _))
            (first
              | (go_at_call 26; have _t := tk1; refine (C26.out _ (by exact (Fr.refl _ _).drew)).mono ?_; rintro e w1 ⟨b1, d1, rfl, hq⟩; have N1 : Hid (NewS wA.drew w1 (.slice b1 L'.length d1) L') := hq; have K1 : Nw wA w1 := Nw.trans (Fr.refl _ _).drew (newS_sl hq).2.2; clear hq tk1)
              | (go_at_call 27; have _t := tk1; refine (C27.out _ (by exact (Fr.refl _ _).drew)).mono ?_; rintro e w1 ⟨b1, d1, rfl, hq⟩; have N1 : Hid (NewS wA.drew w1 (.slice b1 G.length d1) G) := hq; have K1 : Nw wA w1 := Nw.trans (Fr.refl _ _).drew (newS_sl hq).2.2; clear hq tk1)
              | (go_at_call 26; have _t := tk2; refine (C26.out _ K1).mono ?_; rintro e w2 ⟨b2, d2, rfl, hq⟩; have N2 : Hid (NewS w1 w2 (.slice b2 L'.length d2) L') := hq; have K2 : Nw wA w2 := Nw.trans K1 (newS_sl hq).2.2; clear hq tk2)
              | (go_at_call 27; have _t := tk2; refine (C27.out _ K1).mono ?_; rintro e w2 ⟨b2, d2, rfl, hq⟩; have N2 : Hid (NewS w1 w2 (.slice b2 G.length d2) G) := hq; have K2 : Nw wA w2 := Nw.trans K1 (newS_sl hq).2.2; clear hq tk2)
              | (go_at_call 26; have _t := tk3; refine (C26.out _ K2).mono ?_; rintro e w3 ⟨b3, d3, rfl, hq⟩; have N3 : Hid (NewS w2 w3 (.slice b3 L'.length d3) L') := hq; have K3 : Nw wA w3 := Nw.trans K2 (newS_sl hq).2.2; clear hq tk3)
              | (go_at_call 27; have _t := tk3; refine (C27.out _ K2).mono ?_; rintro e w3 ⟨b3, d3, rfl, hq⟩; have N3 : Hid (NewS w2 w3 (.slice b3 G.length d3) G) := hq; have K3 : Nw wA w3 := Nw.trans K2 (newS_sl hq).2.2; clear hq tk3)
              | (go_at_call 26; have _t := tk4; refine (C26.out _ K3).mono ?_; rintro e w4 ⟨b4, d4, rfl, hq⟩; have N4 : Hid (NewS w3 w4 (.slice b4 L'.length d4) L') := hq; have K4 : Nw wA w4 := Nw.trans K3 (newS_sl hq).2.2; clear hq tk4)
              | (go_at_call 27; have _t := tk4; refine (C27.out _ K3).mono ?_; rintro e w4 ⟨b4, d4, rfl, hq⟩; have N4 : Hid (NewS w3 w4 (.slice b4 G.length d4) G) := hq; have K4 : Nw wA w4 := Nw.trans K3 (newS_sl hq).2.2; clear hq tk4))
          all_goals
            go_wp2_with fail
            go_meet
            case rel =>
              obtain ⟨F, f1, f2, f3, f4, g1, g2, g3, g4, e1, e2, e3, e4, e5, e6, e7, e8, e9, e10, e11, e12⟩ := four (Fr.refl _ _).drew N1.out N2.out N3.out N4.out
              refine ⟨_, _, _, _, _, _, _, _, rfl, rfl, rfl, rfl, F, ?_, ?_, ?_, ?_, ?_, ?_, ?_, ?_, ?_, ?_, ?_, ?_, ?_, ?_, ?_, ?_, ?_, ?_, ?_, ?_⟩ <;> assumption
        case rest =>
          obtain ⟨a1, c1, a2, c2, a3, c3, a4, c4, rfl, rfl, rfl, rfl, HF⟩ := hcut
          obtain ⟨wB, hwB⟩ : ∃ z, z = wc := ⟨_, rfl⟩
          subst hwB
          have hB : Nw wA wB := HF.out.1
          obtain ⟨z3, z4⟩ := KEY.out wB hB
          clear tk1 tk2 tk3 tk4
          go_wp2_with fail
          refine (C28.out _ hB).mono ?_
          rintro e w1 ⟨bn, cn, rfl, hq⟩
          have HNW : Hid (NewS wB w1 (.slice bn G.length cn) G) := hq
          have hK1 : Nw wA w1 := hB.trans (newS_sl hq).2.2
          have SM : Hid (∀ W, Nw w1 W → Sl (.slice a1 L'.length c1) L' W ∧ Sl (.slice a2 L'.length c2) L' W ∧ Sl (.slice a3 G.length c3) G W ∧ Sl (.slice a4 G.length c4) G W ∧ Sl (.slice bn G.length cn) G W) := fun W hW => ⟨(HF.out.2.1.nw (newS_sl hq).2.2).nw hW, (HF.out.2.2.1.nw (newS_sl hq).2.2).nw hW, (HF.out.2.2.2.1.nw (newS_sl hq).2.2).nw hW, (HF.out.2.2.2.2.1.nw (newS_sl hq).2.2).nw hW, (newS_sl hq).1.nw hW⟩
          clear hq
          have hr1 : Nw w1 w1 := Fr.refl _ _
          go_wp2_with fail
          refine (same_any _ _ _ _ L' _ (SM.out _ hr1).1 (HDL.out _ hK1) (by omega)).mono ?_
          rintro e w2 ⟨rfl, hq⟩
          have hr2 : Nw w1 w2 := hq
          have hK2 : Nw wA w2 := hK1.trans hr2
          clear hq
          go_wp2_with fail
          refine (same_any _ _ _ _ L' _ (SM.out _ hr2).2.1 (HDL.out _ hK2) (by omega)).mono ?_
          rintro e w3 ⟨rfl, hq⟩
          have hr3 : Nw w1 w3 := hr2.trans hq
          have hK3 : Nw wA w3 := hK1.trans hr3
          clear hq
          go_wp2_with fail
          refine (same_any _ _ _ _ G _ (SM.out _ hr3).2.2.1 (SM.out _ hr3).2.2.2.2 hGl).mono ?_
          rintro e w4 ⟨rfl, hq⟩
          have hr4 : Nw w1 w4 := hr3.trans hq
          have hK4 : Nw wA w4 := hK1.trans hr4
          clear hq
          go_wp2_with fail
          refine (same_any _ _ _ _ G _ (SM.out _ hr4).2.2.2.1 (SM.out _ hr4).2.2.2.2 hGl).mono ?_
          rintro e w5 ⟨rfl, hq⟩
          have hr5 : Nw w1 w5 := hr4.trans hq
          have hK5 : Nw wA w5 := hK1.trans hr5
          clear hq
          go_wp2_with fail
          refine (C30.out _ hK5).mono ?_
          rintro e w6 ⟨rfl, hq⟩
          have hr6 : Nw w1 w6 := hr5.trans hq
          have hK6 : Nw wA w6 := hK1.trans hr6
          clear hq
          go_wp2_with fail
          refine (C31.out _ hK6).mono ?_
          rintro e w7 ⟨rfl, hq⟩
          have hr7 : Nw w1 w7 := hr6.trans hq
          have hK7 : Nw wA w7 := hK1.trans hr7
          clear hq hr1 hr2 hr3 hr4 hr5 hr6 hK2 hK3 hK4 hK5 hK6
          obtain ⟨z3, z4⟩ := KEY.out w7 hK7
          go_upto_region 16 with fail
          go_cut [140] (fun s w' => s = .bool false ∧ Nw w7 w')
          case first =>
            generalize cb y = cby at C32 C33
            cases cby with
            | false =>
              first
                | (go_region_held (fun w' => w'.cell? ⟨lb, lo + t * 5 + 3, none⟩ = some (.int .i64 y.1) ∧ w'.cell? ⟨lb, lo + t * 5 + 4, none⟩ = some (.int .i64 y.2))
                    ((refine KEY.out _ (hK7.trans ?_); first | exact Q2 | exact Q1 | exact (Fr.refl _ _).drew | exact Fr.refl _ _))
                    (first
                      | (go_at_call 32; refine (C32.out _ (hK7.trans (Fr.refl _ _).drew)).mono ?_; rintro e u1 ⟨rfl, hq⟩; have Q1 : Nw w7 u1 := Nw.trans (Fr.refl _ _).drew hq; clear hq)
                      | (go_at_call 33; refine (C33.out _).mono ?_; rintro e u2 ⟨rfl, hq⟩; have Q2 : Nw w7 u2 := Nw.trans Q1 hq; clear hq)))
                | done
              go_wp2_with fail
              go_meet
              case rel => exact ⟨rfl, Q2⟩
            | true =>
              by_cases hGe : G = []
              · have hg0 : (G.length : Int) = 0 := by rw [hGe]; rfl
                have C32' : Hid (∀ W, Nw wA W → Calls Try.prog 32 #[.pointer (some ⟨w.heap.size, 0, none⟩), rv y] W fun e w' => e = .returned (.bool true) ∧ Nw W w') := fun W hW => by have := C32.out W hW; rw [decide_eq_true hGe] at this; exact this
                clear C32 hGe
                first
                  | (go_region_held3 (fun w' => w'.cell? ⟨lb, lo + t * 5 + 3, none⟩ = some (.int .i64 y.1) ∧ w'.cell? ⟨lb, lo + t * 5 + 4, none⟩ = some (.int .i64 y.2))
                      ((refine KEY.out _ (hK7.trans ?_); first | exact Q2 | exact Q1 | exact (Fr.refl _ _).drew | exact Fr.refl _ _))
                      (first
                        | (go_at_call 32; refine (C32'.out _ (hK7.trans (Fr.refl _ _).drew)).mono ?_; rintro e u1 ⟨rfl, hq⟩; have Q1 : Nw w7 u1 := Nw.trans (Fr.refl _ _).drew hq; clear hq)
                        | (go_at_call 33; refine (C33.out _).mono ?_; rintro e u2 ⟨rfl, hq⟩; have Q2 : Nw w7 u2 := Nw.trans Q1 hq; clear hq)))
                    | done
                go_wp2_with fail
                go_meet
                case rel => exact ⟨by first | rfl | (simp [hg0]; done), Q2⟩
              · have hg0 : ((G.length : Int) == 0) = false := by
                  have : G.length ≠ 0 := fun h => hGe (List.eq_nil_of_length_eq_zero h)
                  simp; omega
                have hg1 : ¬ (G.length : Int) = 0 := by simpa using hg0
                have C32' : Hid (∀ W, Nw wA W → Calls Try.prog 32 #[.pointer (some ⟨w.heap.size, 0, none⟩), rv y] W fun e w' => e = .returned (.bool false) ∧ Nw W w') := fun W hW => by have := C32.out W hW; rw [decide_eq_false hGe] at this; exact this
                clear C32 hGe
                first
                  | (go_region_held3 (fun w' => w'.cell? ⟨lb, lo + t * 5 + 3, none⟩ = some (.int .i64 y.1) ∧ w'.cell? ⟨lb, lo + t * 5 + 4, none⟩ = some (.int .i64 y.2))
                      ((refine KEY.out _ (hK7.trans ?_); first | exact Q2 | exact Q1 | exact (Fr.refl _ _).drew | exact Fr.refl _ _))
                      (first
                        | (go_at_call 32; refine (C32'.out _ (hK7.trans (Fr.refl _ _).drew)).mono ?_; rintro e u1 ⟨rfl, hq⟩; have Q1 : Nw w7 u1 := Nw.trans (Fr.refl _ _).drew hq; clear hq)
                        | (go_at_call 33; refine (C33.out _).mono ?_; rintro e u2 ⟨rfl, hq⟩; have Q2 : Nw w7 u2 := Nw.trans Q1 hq; clear hq)))
                    | done
                go_wp2_with fail
                go_meet
                case rel => exact ⟨by first | rfl | (simp [hg0]; done), Q2⟩
          case rest =>
            obtain ⟨rfl, hr8⟩ := hcut
            obtain ⟨w8, hw8⟩ : ∃ z, z = wc := ⟨_, rfl⟩
            subst hw8
            have hW8 : Nw w1 w8 := hr7.trans hr8
            have SM8 : Hid (Sl (.slice a1 L'.length c1) L' w8 ∧ Sl (.slice a2 L'.length c2) L' w8 ∧ Sl (.slice a3 G.length c3) G w8 ∧ Sl (.slice a4 G.length c4) G w8 ∧ Sl (.slice bn G.length cn) G w8) := SM.out w8 hW8
            have hK8 : Nw wA w8 := hK1.trans hW8
            have FA : Hid (Frs wA (.slice a1 L'.length c1)) := HF.out.2.2.2.2.2.1
            have FG : Hid (Frs wA (.slice a3 G.length c3)) := HF.out.2.2.2.2.2.2.2.1
            have DAB : Hid (Dj (.slice a2 L'.length c2) (.slice a1 L'.length c1)) := HF.out.2.2.2.2.2.2.2.2.2.1.symm
            have DAG : Hid (Dj (.slice a3 G.length c3) (.slice a1 L'.length c1)) := HF.out.2.2.2.2.2.2.2.2.2.2.1.symm
            have DAH : Hid (Dj (.slice a4 G.length c4) (.slice a1 L'.length c1)) := HF.out.2.2.2.2.2.2.2.2.2.2.2.1.symm
            have DBG : Hid (Dj (.slice a2 L'.length c2) (.slice a3 G.length c3)) := HF.out.2.2.2.2.2.2.2.2.2.2.2.2.1
            have DGH : Hid (Dj (.slice a4 G.length c4) (.slice a3 G.length c3)) := HF.out.2.2.2.2.2.2.2.2.2.2.2.2.2.2.1.symm
            have DNA : Hid (Dj (.slice bn G.length cn) (.slice a1 L'.length c1)) := (frs_dj (newS_sl HNW.out).2.1 HF.out.2.1).symm
            have DNG : Hid (Dj (.slice bn G.length cn) (.slice a3 G.length c3)) := (frs_dj (newS_sl HNW.out).2.1 HF.out.2.2.2.1).symm
            clear SM HF HNW hr7 hr8 hB z3 z4 hK1 hK7 KEY C27 C28 C30 C31 C32 C33
            go_wp2_with fail
            go_loopg [13] L'.length (fun kx j wr => ∃ (s : Nat) (X : List Rg), s ≤ L'.length ∧ L'.length - s ≤ kx ∧ j = .int .i64 s ∧ X.length = L'.length ∧ Hid (Sl (.slice a1 L'.length c1) X wr) ∧ Hid (Fr (fun k => blk (.slice a1 L'.length c1) = some k) w8 wr))
            case atStart => exact ⟨0, L', Nat.zero_le _, by omega, rfl, rfl, SM8.out.1, Fr.refl _ _⟩
            case round =>
              obtain ⟨s, X, hs, hksx, rfl, hXl, HSl, HFr⟩ := hrel
              by_cases hsl : s < L'.length
              · obtain ⟨g, cc, p0, p1, hbg, hv, hcm, e1, e2, e3⟩ := HSl.out.getc s (by omega)
                injection hv with hv1 hv0 hv2
                clear hv0
                subst hv1 hv2
                have hf1 := e3 (s * 2)
                have hf2 := e3 (s * 2 + 1)
                have PUT : Hid (∃ X' : List Rg, X'.length = X.length ∧ Sl (.slice (some ⟨g, 0, none⟩) L'.length c1) X' ((wr.setCell ⟨g, s * 2, none⟩ (.int .i64 3)).setCell ⟨g, s * 2 + 1, none⟩ (.int .i64 2))) := HSl.out.put s (by omega) g hbg (3, 2)
                have hsz : (s : Int) < (L'.length : Int) := by omega
                clear e3
                go_wp2
                go_roundg (L'.length - (s + 1))
                case measure => omega
                case rel =>
                  obtain ⟨X', hX', hSl'⟩ := PUT.out
                  exact ⟨s + 1, X', by omega, Nat.le_refl _, by go_num, hX'.trans hXl, hSl', Fr.setCell (Fr.setCell HFr.out _ _ (.inl hbg)) _ _ (.inl hbg)⟩
              · have hse : s = L'.length := by omega
                have hFW : Fr (fun k => blk (.slice a1 L'.length c1) = some k) w8 wr := HFr.out
                obtain ⟨w9, hw9⟩ : ∃ z, z = wr := ⟨_, rfl⟩
                subst hw9
                have SM9 : Hid (Sl (.slice a2 L'.length c2) L' w9 ∧ Sl (.slice a3 G.length c3) G w9 ∧ Sl (.slice a4 G.length c4) G w9 ∧ Sl (.slice bn G.length cn) G w9) := ⟨SM8.out.2.1.kept hFW (fun k hk => DAB.out k hk), SM8.out.2.2.1.kept hFW (fun k hk => DAG.out k hk), SM8.out.2.2.2.1.kept hFW (fun k hk => DAH.out k hk), SM8.out.2.2.2.2.kept hFW (fun k hk => DNA.out k hk)⟩
                have hK9 : Nw wA w9 := Fr.then hK8 hFW (fun k hk => .inr (FA.out k hk))
                clear hFW HFr HSl SM8 hK8 DAB DAG DAH DNA FA
                go_wp2_with fail
                go_loopg [14] G.length (fun kx j wr => ∃ (s : Nat) (X : List Rg), s ≤ G.length ∧ G.length - s ≤ kx ∧ j = .int .i64 s ∧ X.length = G.length ∧ Hid (Sl (.slice a3 G.length c3) X wr) ∧ Hid (Fr (fun k => blk (.slice a3 G.length c3) = some k) w9 wr))
                case atStart => exact ⟨0, G, Nat.zero_le _, by omega, rfl, rfl, SM9.out.2.1, Fr.refl _ _⟩
                case round =>
                  obtain ⟨s', X', hs', hksx', rfl, hXl', HSl', HFr'⟩ := hrel
                  by_cases hsl' : s' < G.length
                  · obtain ⟨g, cc, p0, p1, hbg, hv, hcm, e1, e2, e3⟩ := HSl'.out.getc s' (by omega)
                    injection hv with hv1 hv0 hv2
                    clear hv0
                    subst hv1 hv2
                    have hf1 := e3 (s' * 2)
                    have hf2 := e3 (s' * 2 + 1)
                    have PUT : Hid (∃ X'' : List Rg, X''.length = X'.length ∧ Sl (.slice (some ⟨g, 0, none⟩) G.length c3) X'' ((wr.setCell ⟨g, s' * 2, none⟩ (.int .i64 5)).setCell ⟨g, s' * 2 + 1, none⟩ (.int .i64 1))) := HSl'.out.put s' (by omega) g hbg (5, 1)
                    have hsz : (s' : Int) < (G.length : Int) := by omega
                    clear e3
                    go_wp2
                    go_roundg (G.length - (s' + 1))
                    case measure => omega
                    case rel =>
                      obtain ⟨X2, hX2, hSl2⟩ := PUT.out
                      exact ⟨s' + 1, X2, by omega, Nat.le_refl _, by go_num, hX2.trans hXl', hSl2, Fr.setCell (Fr.setCell HFr'.out _ _ (.inl hbg)) _ _ (.inl hbg)⟩
                  · have hse' : s' = G.length := by omega
                    have hFW : Fr (fun k => blk (.slice a3 G.length c3) = some k) w9 wr := HFr'.out
                    obtain ⟨v1, hv1⟩ : ∃ z, z = wr := ⟨_, rfl⟩
                    subst hv1
                    have SMZ : Hid (∀ W, Nw v1 W → Sl (.slice a2 L'.length c2) L' W ∧ Sl (.slice a4 G.length c4) G W ∧ Sl (.slice bn G.length cn) G W) := fun W hW => ⟨(SM9.out.1.kept hFW (fun k hk => DBG.out k hk)).nw hW, (SM9.out.2.2.1.kept hFW (fun k hk => DGH.out k hk)).nw hW, (SM9.out.2.2.2.kept hFW (fun k hk => DNG.out k hk)).nw hW⟩
                    have hKv1 : Nw wA v1 := Fr.then hK9 hFW (fun k hk => .inr (FG.out k hk))
                    have hrv1 : Nw v1 v1 := Fr.refl _ _
                    clear hFW HFr' HSl' SM9 hK9 DBG DGH DNG FG
                    go_wp2_with fail
                    refine (same_any _ _ _ _ L' _ (SMZ.out _ hrv1).1 (HDL.out _ hKv1) (by omega)).mono ?_
                    rintro e v2 ⟨rfl, hrv2⟩
                    have hKv2 : Nw wA v2 := hKv1.trans hrv2
                    go_wp2_with fail
                    refine (same_any _ _ _ _ G _ (SMZ.out _ hrv2).2.1 (SMZ.out _ hrv2).2.2 hGl).mono ?_
                    rintro e v3 ⟨rfl, hq⟩
                    have hKv3 : Nw wA v3 := hKv2.trans hq
                    clear hq
                    go_wp2_with fail
                    refine (C26.out _ hKv3).mono ?_
                    rintro e v4 ⟨b4, d4, rfl, hq⟩
                    obtain ⟨hsl4, _, hq4⟩ := newS_sl hq
                    have hKv4 : Nw wA v4 := hKv3.trans hq4
                    clear hq hq4
                    go_wp2_with fail
                    refine (same_any _ _ _ _ L' _ hsl4 (HDL.out _ hKv4) (by omega)).mono ?_
                    rintro e v5 ⟨rfl, hq⟩
                    have HEND : Hid (St w w.heap.size L' (.slice a' L'.length c') v5) := HST'.out.nw (hKv4.trans hq)
                    clear hq hsl4 hKv4 hKv3 hKv2 hKv1 hrv1 hrv2
                    go_wp2
                    go_roundg (len - (t + 1))
                    case measure => omega
                    case rel => exact ⟨t + 1, L', a', c', hlt, Nat.le_refl _, by go_num, rfl, HEND⟩
    · have hte : t = len := by omega
      obtain ⟨og, s1, s2, s3, s4, s5, s6, s7, s8⟩ := HST.out
      have HW4 : Hid (∀ W, Nw wr W → Calls Try.prog 32 #[.pointer (some ⟨w.heap.size, 0, none⟩), rv ((4 : Int), (4 : Int))] W fun e w' => e = .returned (.bool true) ∧ Nw W w') := fun W hW => has_empty w.heap.size (4, 4) W rfl rfl
      have HW3 : Hid (∀ W, Nw wr W → Calls Try.prog 32 #[.pointer (some ⟨w.heap.size, 0, none⟩), rv ((4 : Int), (3 : Int))] W fun e w' => e = .returned (.bool false) ∧ Nw W w') := fun W hW => has_bad w.heap.size (4, 3) W rfl
      clear s1 s2 s3 s4 s5 s6 s7 s8 HST
      go_wp2_with fail
      refine (HW4.out _ (Fr.refl _ _)).mono ?_
      rintro e u1 ⟨rfl, hq1⟩
      go_wp2_with fail
      refine (HW3.out _ hq1).mono ?_
      rintro e u2 ⟨rfl, hq2⟩
      go_wp2
      go_ret
      exact ⟨rfl, (hNwr.trans hq1).trans hq2⟩
end Go.Proofs.Ytegabbfdnpjkkaa

import Derived.Test.YtffhpoilifgcdaaDoorVbf
import Derived.Test.YtffhpoilifgcdaaDoorVbr
namespace Go.Proofs.YtffhpoilifgcdaaDoor
open Go.RowKit
set_option linter.unusedVariables false
/-! ### The document's reading of records -/
theorem RcO.slw {g : Nat} {R : List By} {w : World} (h : RcO g R w) (hl : R.length = 512) (o : Nat) (ho : o + 12 ≤ 512) : Sl (fun k => k ≠ g) (.slice (some ⟨g, o, none⟩) 12 (512 - o)) ((R.drop o).take 12) w := by
  have hlen : ((R.drop o).take 12).length = 12 := by rw [List.length_take, List.length_drop]; omega
  refine .inr ⟨g, fun h => h rfl, o, 512 - o, by rw [hlen], by rw [hlen]; omega, by omega, ?_⟩
  intro j hj
  rw [hlen] at hj
  have := h.at (o + j) (by omega)
  rw [this, List.getElem_take, List.getElem_drop]
theorem slp12 (g F F2 : Nat) (b1 : F + 12 = F2) (b2 : F2 ≤ 512) (W : World) : (Instr.sliceAt 36 (.pointer (some ⟨g, 0, none⟩)) (some (.int .i64 (F : Int))) (some (.int .i64 (F2 : Int))) none).run Tryd.prog W = .ok (.slice (some ⟨g, F, none⟩) 12 (512 - F)) W := by
  have hal : Tryd.prog.arrayLen 36 = 512 := by simp [Program.arrayLen, Tryd.underlying36]
  rw [run_sliceAt_array_lh W 36 ⟨g, 0, none⟩ (by simp [Program.arrayLen, Program.elem, Tryd.underlying36]) .i64 .i64 (F : Int) (F2 : Int) (by omega) (by omega) (by rw [hal]; omega)]
  have h5 : ¬ 512 = F := by omega
  have h6 : F2 - F = 12 := by omega
  go_simp
set_option maxHeartbeats 4000000 in
set_option maxRecDepth 100000 in
theorem ysize_any (w : World) (R : List By) (hR : R.length = 512) (o : Nat) (ho : o + 12 ≤ 512) :
    Calls Tryd.prog 40 #[.agg (rc R), .int .i64 (o : Int)] w fun e w' => e = .returned (.tuple #[.int .i64 ((szN ((R.drop o).take 12)).1 : Int), .int .i64 ((szN ((R.drop o).take 12)).2 : Int)]) ∧ Hid (Nw w w') := by
  obtain ⟨P, hP⟩ : ∃ P : Ending → World → Prop, P = fun e w' => e = .returned (.tuple #[.int .i64 ((szN ((R.drop o).take 12)).1 : Int), .int .i64 ((szN ((R.drop o).take 12)).2 : Int)]) ∧ Hid (Nw w w') := ⟨_, rfl⟩
  rw [← hP]
  obtain ⟨g, hg⟩ : ∃ g, w.heap.size = g := ⟨_, rfl⟩
  obtain ⟨W1, hW1⟩ : ∃ W1, w.alloc (.cells (rc R) 36) = W1 := ⟨_, rfl⟩
  have hN1 : Nw w W1 := by rw [← hW1]; exact (Fr.refl _ _).alloc _
  have hr1 : RcO g R W1 := by rw [← hW1, ← hg]; exact nHeap _ _
  have hgl : g < W1.heap.size := by rw [← hW1, ← hg]; simp
  obtain ⟨o2, ho2⟩ : ∃ o2, o + 12 = o2 := ⟨_, rfl⟩
  have ho2i : (o : Int) + 12 = (o2 : Int) := by omega
  have hob : (o2 : Int) ≤ 512 := by omega
  have hsl := slp12 g o o2 ho2 (by omega)
  have HN := rnumber_any W1 _ _ _ _ (by exact (hr1.slw hR o ho).mono (fun k hk => by omega)) (by omega)
  rw [numA_nv] at HN
  have HN := tHid HN
  have HF : Hid (∀ V n e, Nw W1 V → szN ((R.drop o).take 12) = (n, e) → P (.returned (.tuple #[.int .i64 (n : Int), .int .i64 (e : Int)])) V) := fun V n e h1 h2 => by rw [hP, h2]; exact ⟨rfl, hN1.trans h1⟩
  clear hP hr1 hN1 ho2 ho hgl
  have hz := fEv_zero ((R.drop o).take 12)
  have hsz : szN ((R.drop o).take 12) = if fEv ((R.drop o).take 12) = 0 ∧ fNv ((R.drop o).take 12) < 0 then (0, 3) else ((fNv ((R.drop o).take 12)).toNat, fEv ((R.drop o).take 12)) := rfl
  generalize fNv ((R.drop o).take 12) = N at *
  generalize fEv ((R.drop o).take 12) = E at *
  generalize szN ((R.drop o).take 12) = S at *
  generalize rc R = C at *
  by_cases hE : E = 0
  · subst hE
    clear hz
    by_cases hN : N < 0
    · rw [if_pos ⟨rfl, hN⟩] at hsz
      go_enter Tryd.func40, Tryd.ntmps40
      go_wp2_with (first | (go_at_call 49; with_reducible refine HN.out.mono ?_; rintro e w1 ⟨rfl, H1⟩; have H1 := tHid H1))
      first | exact HF.out _ 0 3 H1.out hsz | (go_ret; exact HF.out _ 0 3 H1.out hsz)
    · rw [if_neg (fun h => hN h.2)] at hsz
      obtain ⟨M, rfl⟩ : ∃ M : Nat, N = (M : Int) := ⟨N.toNat, by omega⟩
      rw [Int.toNat_natCast] at hsz
      go_enter Tryd.func40, Tryd.ntmps40
      go_wp2_with (first | (go_at_call 49; with_reducible refine HN.out.mono ?_; rintro e w1 ⟨rfl, H1⟩; have H1 := tHid H1))
      first | exact HF.out _ M 0 H1.out hsz | (go_ret; exact HF.out _ M 0 H1.out hsz)
  · have hN0 := hz hE
    subst hN0
    rw [if_neg (fun h => hE h.1)] at hsz
    have hEi : ¬ ((E : Int) = 0) := by omega
    clear hz hE
    go_enter Tryd.func40, Tryd.ntmps40
    go_wp2_with (first | (go_at_call 49; with_reducible refine HN.out.mono ?_; rintro e w1 ⟨rfl, H1⟩; have H1 := tHid H1))
    first | exact HF.out _ 0 E H1.out hsz | (go_ret; exact HF.out _ 0 E H1.out hsz)
end Go.Proofs.YtffhpoilifgcdaaDoor

namespace Go.Proofs.YtffhpoilifgcdaaDoor
open Go.RowKit
set_option linter.unusedVariables false
/-! ### The document's ranges of a record -/
def aZ (l : List By) : Bool := l.all (· == 0#8)
theorem aZ_step (s : List By) (J : Nat) (y : By) (h : s[J]? = some y) : aZ (s.take (J + 1)) = (aZ (s.take J) && (y == 0#8)) := by
  unfold aZ
  rw [List.take_add_one, h, List.all_append]
  simp
theorem aZ_z24 (s : List By) (h : s.length = 24) : aZ s = decide (s = z24) := by
  unfold aZ
  rw [Bool.eq_iff_iff, decide_eq_true_iff, List.all_eq_true]
  constructor
  · intro hh
    unfold z24
    rw [← h]
    exact List.eq_replicate_iff.2 ⟨rfl, fun x hx => by simpa using hh x hx⟩
  · intro e x hx
    rw [e] at hx
    unfold z24 at hx
    simp [List.eq_of_mem_replicate hx]
def YrA (w : World) (x : List (Nat × Nat) × Nat) (e : Ending) (V : World) : Prop := ∃ a m c, e = .returned (.tuple #[.slice a m c, .int .i64 (x.2 : Int)]) ∧ Hid (Nw w V ∧ (x.2 = 0 → NewG w (.slice a m c) (rgL x.1) V) ∧ (x.2 ≠ 0 → a = none ∧ m = 0 ∧ c = 0))
set_option maxHeartbeats 16000000 in
set_option maxRecDepth 100000 in
theorem yranges_any (w : World) (R : List By) (hR : R.length = 512) (f r : Nat) (hfr : f + r * 24 < 512) :
    Calls Tryd.prog 39 #[.agg (rc R), .int .i64 (f : Int), .int .i64 (r : Int)] w (YrA w (rdO R r f [])) := by
  obtain ⟨P, hP⟩ : ∃ P : Ending → World → Prop, P = YrA w (rdO R r f []) := ⟨_, rfl⟩
  rw [← hP]
  obtain ⟨g, hg⟩ : ∃ g, w.heap.size = g := ⟨_, rfl⟩
  obtain ⟨W1, hW1⟩ : ∃ W1, w.alloc (.cells (rc R) 36) = W1 := ⟨_, rfl⟩
  obtain ⟨lb, hlb⟩ : ∃ lb, W1.heap.size = lb := ⟨_, rfl⟩
  obtain ⟨W2, hW2⟩ : ∃ W2, W1.alloc (.cells #[] 51) = W2 := ⟨_, rfl⟩
  have hN1 : Nw w W1 := by rw [← hW1]; exact (Fr.refl _ _).alloc _
  have hr1 : RcO g R W1 := by rw [← hW1, ← hg]; exact nHeap _ _
  have hN12 : Nw W1 W2 := by rw [← hW2]; exact (Fr.refl _ _).alloc _
  have ho2 : OgR RG (some lb) (.slice (some ⟨lb, 0, none⟩) 0 0) (rgL []) W2 := by rw [← hW2, ← hlb]; exact OwR.empty (R := RG) W1
  have HRc : Hid (∀ V, Nw W1 V → RcO g R V) := fun V hV => Nw.heap hV hr1
  have HSz : Hid (∀ V (o : Nat), o + 12 ≤ 512 → Calls Tryd.prog 40 #[.agg (rc R), .int .i64 (o : Int)] V fun e w' => e = .returned (.tuple #[.int .i64 ((szN ((R.drop o).take 12)).1 : Int), .int .i64 ((szN ((R.drop o).take 12)).2 : Int)]) ∧ Hid (Nw V w')) := fun V o ho => ysize_any V R hR o ho
  have HIn := tHid (rc_info R hR)
  have HBad : Hid (∀ V (e : Nat), Nw w V → e ≠ 0 → rdO R r f [] = ([], e) → P (.returned (.tuple #[.slice none 0 0, .int .i64 (e : Int)])) V) := fun V e h1 h2 h3 => by
    rw [hP, h3]
    exact ⟨none, 0, 0, rfl, h1, fun h => absurd h h2, fun _ => ⟨rfl, rfl, rfl⟩⟩
  have HOk : Hid (∀ V a m c og acc, Nw w V → OgR RG og (.slice a m c) (rgL acc) V → (∀ g, og = some g → W1.heap.size ≤ g) → rdO R r f [] = (acc, 0) → P (.returned (.tuple #[.slice a m c, .int .i64 0])) V) := fun V a m c og acc h1 h2 h3 h4 => by
    rw [hP, h4]
    exact ⟨a, m, c, rfl, h1, fun _ => ⟨og, h2, fun g e => Nat.le_trans hN1.size (h3 g e)⟩, fun h => absurd rfl h⟩
  have HN1 := tHid hN1
  have HN12 := tHid hN12
  have HO2 := tHid ho2
  have HLB : Hid (W1.heap.size ≤ lb) := by show _ ≤ _; omega
  clear hP hN1 hN12 ho2 hr1
  obtain ⟨C, hC⟩ : ∃ C, rc R = C := ⟨_, rfl⟩
  rw [hC] at HSz HIn hW1 ⊢
  have HCC := tHid hC
  clear hC
  go_enter Tryd.func39, Tryd.ntmps39
  go_upto_region 2 with fail
  go_wp2_with fail
  go_loopg [8, 9] r (fun kx v x wr => ∃ (I : Nat) (og : Option Nat) (acc : List (Nat × Nat)) (a8 : Option Addr) (n8 c8 : Nat), I ≤ r ∧ r - I ≤ kx ∧ x = .int .i64 (I : Int) ∧ v = .slice a8 n8 c8 ∧ Hid (Nw W1 wr ∧ OgR RG og (.slice a8 n8 c8) (rgL acc) wr ∧ (∀ g, og = some g → W1.heap.size ≤ g) ∧ acc.length = I ∧ rdO R r f [] = rdO R (r - I) (f + I * 24) acc))
  case atStart => exact ⟨0, some lb, [], _, 0, 0, by omega, by omega, rfl, rfl, HN12.out, HO2.out, (fun g e => by injection e with e; have := HLB.out; omega), rfl, by simp⟩
  case round =>
    obtain ⟨I, og, acc, a8, n8, c8, hI, hkx, rfl, rfl, HI⟩ := hrel
    by_cases hlt : I < r
    · have hlti : (I : Int) < (r : Int) := by omega
      obtain ⟨M, hM⟩ : ∃ M, I * 24 = M := ⟨_, rfl⟩
      obtain ⟨F, hF⟩ : ∃ F, f + M = F := ⟨_, rfl⟩
      have e1 : 24 * (I : Int) = (M : Int) := by omega
      have e2 : (f : Int) + (M : Int) = (F : Int) := by omega
      have hF24 : F + 24 ≤ 512 := by omega
      obtain ⟨F2, hF2⟩ : ∃ F2, F + 24 = F2 := ⟨_, rfl⟩
      have e3 : (F : Int) + 24 = (F2 : Int) := by omega
      have e4 : (M : Int) ≤ 512 := by omega
      have e5 : (F2 : Int) ≤ 512 := by omega
      obtain ⟨s, hs⟩ : ∃ s, (R.drop F).take 24 = s := ⟨_, rfl⟩
      have hsl : s.length = 24 := by rw [← hs, List.length_take, List.length_drop]; omega
      have hsj : ∀ J, J < 24 → s[J]? = R[F + J]? := fun J h => by rw [← hs, List.getElem?_take, if_pos h, List.getElem?_drop]
      have hrd : rdO R (r - I) (f + I * 24) acc = if s = z24 then (acc, 0) else if (one2 s).2 ≠ 0 then ([], (one2 s).2) else rdO R (r - (I + 1)) (f + (I + 1) * 24) (acc ++ [(one2 s).1]) := by
        obtain ⟨k, hk⟩ : ∃ k, r - I = k + 1 := ⟨r - I - 1, by omega⟩
        have q1 : r - (I + 1) = k := by omega
        rw [hk, q1, rdO, hM, hF, hs, show F + 24 = f + (I + 1) * 24 by omega]
      have HRD := tHid hrd
      have HSL := tHid hsl
      have HSJ := tHid hsj
      have HS12 : Hid ((R.drop F).take 12 = s.take 12 ∧ (R.drop (F + 12)).take 12 = s.drop 12) := by
        refine ⟨?_, ?_⟩
        · rw [← hs, List.take_take]; rfl
        · rw [← hs, List.drop_take, List.drop_drop]
      clear hM hF hF2 hs hrd hsl hsj
      obtain ⟨wo, hwo⟩ : ∃ z, z = wr := ⟨_, rfl⟩
      subst hwo
      go_upto_region 7 with fail
      go_wp2_with fail
      go_loopg [11, 12] 24 (fun kx b x wq => ∃ (J : Nat) (B : Bool), J ≤ 24 ∧ 24 - J ≤ kx ∧ b = .bool B ∧ x = .int .i64 ((F + J : Nat) : Int) ∧ Hid (B = aZ (s.take J) ∧ Nw wo wq))
      case atStart => exact ⟨0, true, by omega, by omega, rfl, rfl, rfl, Fr.refl _ _⟩
      case round =>
        obtain ⟨J, B, hJ, hkx2, rfl, rfl, HJ⟩ := hrel
        obtain ⟨K, hK⟩ : ∃ K, F + J = K := ⟨_, rfl⟩
        rw [hK]
        by_cases hlj : J < 24
        · have hki : (K : Int) < (F2 : Int) := by omega
          have hkl : K < R.length := by omega
          have hK5 : (K : Int) < 512 := by omega
          have ck := (HRc.out wr (HI.out.1.trans HJ.out.2)).at K hkl
          obtain ⟨y, hy⟩ : ∃ y : Nat, R[K].toNat = y := ⟨_, rfl⟩
          rw [hy] at ck
          have hyb : ((y : Int) == 0) = (R[K] == 0#8) := by
            rw [← hy, Bool.eq_iff_iff, beq_iff_eq, beq_iff_eq]
            constructor
            · intro e; exact BitVec.eq_of_toNat_eq (by simpa using e)
            · intro e; rw [e]; rfl
          have hst := aZ_step s J R[K] (by rw [HSJ.out J hlj, hK]; exact List.getElem?_eq_getElem hkl)
          rw [← hyb, ← HJ.out.1] at hst
          obtain ⟨K1, hK1⟩ : ∃ K1, F + (J + 1) = K1 := ⟨_, rfl⟩
          have hk1 : (K : Int) + 1 = (K1 : Int) := by omega
          obtain ⟨Y, hY⟩ : ∃ Y, ((y : Int) == 0) = Y := ⟨_, rfl⟩
          rw [hY] at hst
          clear hyb hy hkl
          cases B with
          | false =>
            have HNX : Hid (false = aZ (s.take (J + 1)) ∧ Nw wo wr) := ⟨hst.symm, HJ.out.2⟩
            clear HJ hst hK
            go_wp2_with fail
            go_roundg (24 - (J + 1))
            case measure => omega
            case rel => exact ⟨J + 1, false, by omega, by omega, rfl, by rw [hK1], HNX⟩
          | true =>
            have HNX : Hid (Y = aZ (s.take (J + 1)) ∧ Nw wo wr) := ⟨by rw [hst, Bool.true_and], HJ.out.2⟩
            clear HJ hst hK
            go_wp2_with fail
            go_roundg (24 - (J + 1))
            case measure => omega
            case rel => exact ⟨J + 1, Y, by omega, by omega, rfl, by rw [hK1], HNX⟩
        · have hki : ¬ (K : Int) < (F2 : Int) := by omega
          have hB : B = decide (s = z24) := by
            rw [HJ.out.1, List.take_of_length_le (by have := HSL.out; omega), aZ_z24 s HSL.out]
          have HNq := tHid (HI.out.1.trans HJ.out.2)
          have hOg : OgR RG og (.slice a8 n8 c8) (rgL acc) wr := HI.out.2.1.nw HJ.out.2
          have HOg := tHid hOg
          have hrd0 := HI.out.2.2.2.2
          rw [HRD.out] at hrd0
          have HRW := tHid (HRc.out wr HNq.out)
          have HFR := tHid HI.out.2.2.1
          have HAL := tHid HI.out.2.2.2.1
          clear HI HJ hOg HRD HSJ
          by_cases hz : s = z24
          · rw [decide_eq_true hz] at hB
            rw [if_pos hz] at hrd0
            have HE := tHid (HOk.out wr a8 n8 c8 og acc (HN1.out.trans HNq.out) HOg.out HFR.out hrd0)
            clear HOk HBad hz hrd0 HSz hK
            subst hB
            go_wp2_with fail
            first | exact HE.out | (go_ret; exact HE.out)
          · rw [decide_eq_false hz] at hB
            rw [if_neg hz] at hrd0
            have HS1 : Hid (∀ V, Calls Tryd.prog 40 #[.agg C, .int .i64 (F : Int)] V fun e w' => e = .returned (.tuple #[.int .i64 ((szN (s.take 12)).1 : Int), .int .i64 ((szN (s.take 12)).2 : Int)]) ∧ Hid (Nw V w')) := fun V => by
              have := HSz.out V F (by omega)
              rw [HS12.out.1] at this
              exact this
            obtain ⟨G, hG⟩ : ∃ G, F + 12 = G := ⟨_, rfl⟩
            have hGi : (F : Int) + 12 = (G : Int) := by omega
            have hG5 : (G : Int) ≤ 512 := by omega
            have HS2 : Hid (∀ V, Calls Tryd.prog 40 #[.agg C, .int .i64 (G : Int)] V fun e w' => e = .returned (.tuple #[.int .i64 ((szN (s.drop 12)).1 : Int), .int .i64 ((szN (s.drop 12)).2 : Int)]) ∧ Hid (Nw V w')) := fun V => by
              have := HSz.out V G (by omega)
              rw [← hG, HS12.out.2] at this
              rw [← hG]
              exact this
            have HRX : Hid (∀ V, Nw wr V → V.heap[g]? = some (.cells C 36)) := fun V hV => by
              have := Nw.heap hV HRW.out
              rw [HCC.out] at this
              exact this
            have hrow0 := HRX.out wr (Fr.refl _ _)
            have HR0 := tHid hrow0
            have hone : one2 s = (if (szN (s.take 12)).2 ≠ 0 then ((0, 0), (szN (s.take 12)).2) else
              if (szN (s.drop 12)).2 ≠ 0 then ((0, 0), (szN (s.drop 12)).2) else
              if 9223372036854775807 - (szN (s.take 12)).1 < (szN (s.drop 12)).1 then ((0, 0), 3) else (((szN (s.take 12)).1, (szN (s.take 12)).1 + (szN (s.drop 12)).1), 0)) := rfl
            have m1 := szN_le (s.take 12)
            have m2 := szN_le (s.drop 12)
            clear HOk hz HSz hG hK HS12 hrow0 HRW
            subst hB
            generalize szN (s.take 12) = r1 at *
            generalize szN (s.drop 12) = r2 at *
            obtain ⟨n1, x1⟩ := r1
            obtain ⟨n2, x2⟩ := r2
            simp only at HS1 HS2 hone m1 m2
            by_cases h1 : x1 = 0
            · subst h1
              rw [if_neg (by simp)] at hone
              by_cases h2 : x2 = 0
              · subst h2
                rw [if_neg (by simp)] at hone
                by_cases hov : n1 + n2 ≤ 9223372036854775807
                · rw [if_neg (by omega)] at hone
                  rw [hone, if_neg (by simp)] at hrd0
                  obtain ⟨T, hT⟩ : ∃ T, n1 + n2 = T := ⟨_, rfl⟩
                  have hTi : (n1 : Int) + (n2 : Int) = (T : Int) := by omega
                  have hT6 : (T : Int) ≤ 9223372036854775807 := by omega
                  have hc : ¬ (9223372036854775807 : Int) - (n1 : Int) < (n2 : Int) := by omega
                  simp only [hT] at hrd0
                  have HPU : Hid (∀ V, Nw wr V → ∃ og' a9 n9 c9 W7, Hid (∀ ty, (Builtin.append_ #[22, 22] ty #[.slice a8 n8 c8, .slice (some ⟨V.heap.size, 0, none⟩) 1 1]).run Tryd.prog (V.alloc (.cells #[.int .i64 (n1 : Int), .int .i64 (T : Int)] 51)) = .ok (.slice a9 n9 c9) W7) ∧ Hid (Nw W1 W7 ∧ OgR RG og' (.slice a9 n9 c9) (rgL (acc ++ [(n1, T)])) W7 ∧ (∀ g, og' = some g → W1.heap.size ≤ g) ∧ (acc ++ [(n1, T)]).length = I + 1 ∧ rdO R r f [] = rdO R (r - (I + 1)) (f + (I + 1) * 24) (acc ++ [(n1, T)]))) := fun V hV => by
                    obtain ⟨og', v', W7, a1, a2, a3, a4⟩ := pushG V og _ (rgL acc) (HOg.out.nw hV) (by rw [rgL_len, HAL.out]; omega) ((n1 : Int), (T : Int))
                    have hN17 : Nw W1 W7 := (HNq.out.trans hV).then a3 (fun i hi => .inr (HFR.out i hi))
                    have hfr' : ∀ g, og' = some g → W1.heap.size ≤ g := fun g e => by
                      rcases a4 with h | ⟨g', e', hg'⟩
                      · exact HFR.out g (by rw [← h]; exact e)
                      · rw [e'] at e
                        injection e with e
                        have := (HNq.out.trans hV).size; omega
                    have hrg : rgL acc ++ [((n1 : Int), (T : Int))] = rgL (acc ++ [(n1, T)]) := (rgL_snoc acc (n1, T)).symm
                    rw [hrg] at a2
                    obtain ⟨a9, c9, rfl, _, _⟩ := a2.form
                    exact ⟨og', a9, _, c9, W7, a1, hN17, a2, hfr', by simp [HAL.out], hrd0⟩
                  clear HBad hrd0 hone hT HOg HNq HFR HAL
                  go_upto_region 16 with (first
                    | (refine wpList_load_row rfl 36 _ rfl g (by first | rfl | simp [Act.eval]) 36 _ (0, 0) _ HR0.out Tryd.underlying36 rfl HIn.out ?_)
                    | (go_at_call 40; with_reducible refine (HS1.out _).mono ?_; rintro e w3 ⟨rfl, H3⟩))
                  have HR3 := tHid (HRX.out w3 H3.out)
                  go_upto_region 19 with (first
                    | (refine wpList_load_row rfl 36 _ rfl g (by first | rfl | simp [Act.eval]) 36 _ (0, 0) _ HR3.out Tryd.underlying36 rfl HIn.out ?_)
                    | (go_at_call 40; with_reducible refine (HS2.out _).mono ?_; rintro e w4 ⟨rfl, H4⟩))
                  obtain ⟨og', a9, n9, c9, W7, a1, HNX⟩ := HPU.out w4 (H3.out.trans H4.out)
                  clear HPU HS1 HS2 HRX HR0 HR3
                  go_wp2_with (first
                    | (at_builtin; refine Lib.wpList_append_run _ rfl _ _ 22 22 rfl (.slice a8 n8 c8) (.slice (some ⟨w4.heap.size, 0, none⟩) 1 1) (by first | rfl | simp [Act.eval]) (by first | rfl | simp [Act.eval]) _ _ (a1.out _) ?_))
                  go_roundg (r - (I + 1))
                  case measure => omega
                  case rel => exact ⟨I + 1, og', acc ++ [(n1, T)], a9, n9, c9, by omega, by omega, by first | rfl | simp, rfl, HNX⟩
                · rw [if_pos (by omega)] at hone
                  rw [hone, if_pos (by simp)] at hrd0
                  have hc : (9223372036854775807 : Int) - (n1 : Int) < (n2 : Int) := by omega
                  have HE : Hid (∀ V, Nw wr V → P (.returned (.tuple #[.slice none 0 0, .int .i64 3])) V) := fun V hV => HBad.out V 3 (HN1.out.trans (HNq.out.trans hV)) (by decide) hrd0
                  clear HBad hrd0 hone
                  go_upto_region 16 with (first
                    | (refine wpList_load_row rfl 36 _ rfl g (by first | rfl | simp [Act.eval]) 36 _ (0, 0) _ HR0.out Tryd.underlying36 rfl HIn.out ?_)
                    | (go_at_call 40; with_reducible refine (HS1.out _).mono ?_; rintro e w3 ⟨rfl, H3⟩))
                  have HR3 := tHid (HRX.out w3 H3.out)
                  go_wp2_with (first
                    | (refine wpList_load_row rfl 36 _ rfl g (by first | rfl | simp [Act.eval]) 36 _ (0, 0) _ HR3.out Tryd.underlying36 rfl HIn.out ?_)
                    | (go_at_call 40; with_reducible refine (HS2.out _).mono ?_; rintro e w4 ⟨rfl, H4⟩))
                  have HF4 := tHid (HE.out w4 (H3.out.trans H4.out))
                  first | exact HF4.out | (go_ret; exact HF4.out)
              · rw [if_pos h2] at hone
                rw [hone, if_pos h2] at hrd0
                have h2i : ¬ ((x2 : Int) = 0) := by omega
                have HE : Hid (∀ V, Nw wr V → P (.returned (.tuple #[.slice none 0 0, .int .i64 (x2 : Int)])) V) := fun V hV => HBad.out V x2 (HN1.out.trans (HNq.out.trans hV)) h2 hrd0
                clear HBad hrd0 hone
                go_upto_region 16 with (first
                  | (refine wpList_load_row rfl 36 _ rfl g (by first | rfl | simp [Act.eval]) 36 _ (0, 0) _ HR0.out Tryd.underlying36 rfl HIn.out ?_)
                  | (go_at_call 40; with_reducible refine (HS1.out _).mono ?_; rintro e w3 ⟨rfl, H3⟩))
                have HR3 := tHid (HRX.out w3 H3.out)
                go_wp2_with (first
                  | (refine wpList_load_row rfl 36 _ rfl g (by first | rfl | simp [Act.eval]) 36 _ (0, 0) _ HR3.out Tryd.underlying36 rfl HIn.out ?_)
                  | (go_at_call 40; with_reducible refine (HS2.out _).mono ?_; rintro e w4 ⟨rfl, H4⟩))
                have HF4 := tHid (HE.out w4 (H3.out.trans H4.out))
                first | exact HF4.out | (go_ret; exact HF4.out)
            · rw [if_pos h1] at hone
              rw [hone, if_pos h1] at hrd0
              have h1i : ¬ ((x1 : Int) = 0) := by omega
              have HE : Hid (∀ V, Nw wr V → P (.returned (.tuple #[.slice none 0 0, .int .i64 (x1 : Int)])) V) := fun V hV => HBad.out V x1 (HN1.out.trans (HNq.out.trans hV)) h1 hrd0
              clear HBad hrd0 hone
              go_wp2_with (first
                | (refine wpList_load_row rfl 36 _ rfl g (by first | rfl | simp [Act.eval]) 36 _ (0, 0) _ HR0.out Tryd.underlying36 rfl HIn.out ?_)
                | (go_at_call 40; with_reducible refine (HS1.out _).mono ?_; rintro e w3 ⟨rfl, H3⟩))
              have HF4 := tHid (HE.out w3 H3.out)
              first | exact HF4.out | (go_ret; exact HF4.out)
    · have hlti : ¬ (I : Int) < (r : Int) := by omega
      have hrd : rdO R r f [] = (acc, 0) := by
        rw [HI.out.2.2.2.2, show r - I = 0 by omega, rdO]
      have HE := tHid (HOk.out wr a8 n8 c8 og acc (HN1.out.trans HI.out.1) HI.out.2.1 HI.out.2.2.1 hrd)
      clear HI HOk HBad hrd
      go_wp2_with fail
      first | exact HE.out | (go_ret; exact HE.out)
end Go.Proofs.YtffhpoilifgcdaaDoor

namespace Go.Proofs.YtffhpoilifgcdaaDoor
open Go.RowKit
set_option linter.unusedVariables false
/-! ### The document's ReadOld, ReadMore -/
theorem flagB (R : List By) (i : Nat) (hi : i < R.length) : ((R[i].toNat : Int) != 0) = decide (R.getD i 0 ≠ 0#8) := by
  rw [List.getD_eq_getElem?_getD, List.getElem?_eq_getElem hi]
  show _ = decide (R[i] ≠ 0#8)
  by_cases h0 : R[i] = 0#8
  · rw [h0]; rfl
  · rw [decide_eq_true h0]
    have : R[i].toNat ≠ 0 := fun e => h0 (BitVec.eq_of_toNat_eq e)
    simp only [bne_iff_ne, ne_eq]
    omega
set_option maxHeartbeats 8000000 in
set_option maxRecDepth 100000 in
theorem yreadOld_any (w : World) (R : List By) (hR : R.length = 512) : Calls Tryd.prog 20 #[.agg (rc R)] w (RoA w R) := by
  obtain ⟨P, hP⟩ : ∃ P : Ending → World → Prop, P = RoA w R := ⟨_, rfl⟩
  rw [← hP]
  obtain ⟨g, hg⟩ : ∃ g, w.heap.size = g := ⟨_, rfl⟩
  obtain ⟨W1, hW1⟩ : ∃ W1, w.alloc (.cells (rc R) 36) = W1 := ⟨_, rfl⟩
  have hN1 : Nw w W1 := by rw [← hW1]; exact (Fr.refl _ _).alloc _
  have hr1 : RcO g R W1 := by rw [← hW1, ← hg]; exact nHeap _ _
  have HRd : Hid (∀ V, Calls Tryd.prog 39 #[.agg (rc R), .int .i64 386, .int .i64 4] V (YrA V (rdO R 4 386 []))) := fun V => yranges_any V R hR 386 4 (by omega)
  unfold YrA at HRd
  have HNu : Hid (∀ V, Calls Tryd.prog 40 #[.agg (rc R), .int .i64 483] V fun e w' => e = .returned (.tuple #[.int .i64 ((szN ((R.drop 483).take 12)).1 : Int), .int .i64 ((szN ((R.drop 483).take 12)).2 : Int)]) ∧ Hid (Nw V w')) := fun V => ysize_any V R hR 483 (by omega)
  have HBad : Hid (∀ V (e : Nat), Nw w V → roE R = e → e ≠ 0 → P (.returned (.tuple #[.slice none 0 0, .int .i64 0, .bool false, .int .i64 (e : Int)])) V) := fun V e h1 h2 h3 => by
    rw [hP]
    exact ⟨none, 0, 0, false, 0, by rw [h2], h1, fun h => absurd (h2 ▸ h) h3, fun _ => ⟨rfl, rfl, rfl, rfl, rfl⟩⟩
  have HOk : Hid (∀ V a m c B (N : Nat), Nw w V → roE R = 0 → NewG w (.slice a m c) (rgL (rdO R 4 386 []).1) V → B = decide (R.getD 482 0 ≠ 0#8) → N = (szN ((R.drop 483).take 12)).1 → P (.returned (.tuple #[.slice a m c, .int .i64 (N : Int), .bool B, .int .i64 0])) V) := fun V a m c B N h1 h2 h3 h4 h5 => by
    rw [hP]
    exact ⟨a, m, c, B, _, by rw [h2]; rfl, h1, fun _ => ⟨h3, h4, by rw [h5]⟩, fun h => absurd h2 h⟩
  have hroE : roE R = if (rdO R 4 386 []).2 ≠ 0 then (rdO R 4 386 []).2 else (szN ((R.drop 483).take 12)).2 := rfl
  have HN1 := tHid hN1
  have HIn := tHid (rc_info R hR)
  have HRw : Hid (∀ V, Nw W1 V → V.heap[g]? = some (.cells (rc R) 36)) := fun V hV => Nw.heap hV hr1
  have HC : Hid (∀ V, Nw W1 V → V.cell? ⟨g, 482, none⟩ = some (.int .u8 (R[482]'(by omega)).toNat)) := fun V hV => RcO.at (Nw.heap hV hr1) 482 (by omega)
  have hB := flagB R 482 (by omega)
  clear hP hr1 hN1
  generalize (R[482]'(by omega)).toNat = y at *
  rw [← hB] at HOk
  clear hB
  generalize (rdO R 4 386 []).2 = E1 at *
  generalize szN ((R.drop 483).take 12) = S at *
  obtain ⟨N2, E2⟩ := S
  simp only at HNu HOk hroE
  generalize rc R = C at *
  have HR1 := tHid (HRw.out W1 (Fr.refl _ _))
  by_cases h1 : E1 = 0
  · subst h1
    rw [if_neg (by simp)] at hroE
    by_cases h2 : E2 = 0
    · subst h2
      go_enter Tryd.func20, Tryd.ntmps20
      go_upto_region 4 with (first
        | (refine wpList_load_row rfl 36 _ rfl g (by first | rfl | simp [Act.eval]) 36 _ (0, 0) _ HR1.out Tryd.underlying36 rfl HIn.out ?_)
        | (go_at_call 39; with_reducible refine (HRd.out _).mono ?_; rintro e w3 ⟨a, m, c, rfl, H3⟩))
      have HR3 := tHid (HRw.out w3 H3.out.1)
      go_upto_region 7 with (first
        | (refine wpList_load_row rfl 36 _ rfl g (by first | rfl | simp [Act.eval]) 36 _ (0, 0) _ HR3.out Tryd.underlying36 rfl HIn.out ?_)
        | (go_at_call 40; with_reducible refine (HNu.out _).mono ?_; rintro e w4 ⟨rfl, H4⟩))
      have q1 := HC.out w4 (H3.out.1.trans H4.out)
      have HE : Hid (∀ n, P (.returned (.tuple #[.slice a m c, .int .i64 (N2 : Int), .bool ((y : Int) != 0), .int .i64 0])) (w4.drewN n)) := fun n => HOk.out _ a m c _ N2 (HN1.out.trans ((H3.out.1.trans H4.out).trans ((Fr.refl _ _).drewN _))) hroE (newG_from ((H3.out.2.1 (by first | trivial | rfl)).nw (H4.out.trans ((Fr.refl _ _).drewN _))) HN1.out.size) rfl rfl
      go_quiet (fail)
      go_wp2_with fail
      first | exact HE.out _ | (go_ret; exact HE.out _) | (refine bodyPost_ret (results_t4 rfl _ _ _) rfl ?_; exact HE.out _)
    · have h2i : ¬ ((E2 : Int) = 0) := by omega
      go_enter Tryd.func20, Tryd.ntmps20
      go_upto_region 4 with (first
        | (refine wpList_load_row rfl 36 _ rfl g (by first | rfl | simp [Act.eval]) 36 _ (0, 0) _ HR1.out Tryd.underlying36 rfl HIn.out ?_)
        | (go_at_call 39; with_reducible refine (HRd.out _).mono ?_; rintro e w3 ⟨a, m, c, rfl, H3⟩))
      have HR3 := tHid (HRw.out w3 H3.out.1)
      go_wp2_with (first
        | (refine wpList_load_row rfl 36 _ rfl g (by first | rfl | simp [Act.eval]) 36 _ (0, 0) _ HR3.out Tryd.underlying36 rfl HIn.out ?_)
        | (go_at_call 40; with_reducible refine (HNu.out _).mono ?_; rintro e w4 ⟨rfl, H4⟩))
      have HE := tHid (HBad.out w4 E2 (HN1.out.trans (H3.out.1.trans H4.out)) hroE h2)
      first | exact HE.out | (go_ret; exact HE.out) | (refine bodyPost_ret (results_t4 rfl _ _ _) rfl ?_; exact HE.out)
  · rw [if_pos h1] at hroE
    have h1i : ¬ ((E1 : Int) = 0) := by omega
    go_enter Tryd.func20, Tryd.ntmps20
    go_wp2_with (first
      | (refine wpList_load_row rfl 36 _ rfl g (by first | rfl | simp [Act.eval]) 36 _ (0, 0) _ HR1.out Tryd.underlying36 rfl HIn.out ?_)
      | (go_at_call 39; with_reducible refine (HRd.out _).mono ?_; rintro e w3 ⟨a, m, c, rfl, H3⟩))
    have HE := tHid (HBad.out w3 E1 (HN1.out.trans H3.out.1) hroE h1)
    first | exact HE.out | (go_ret; exact HE.out) | (refine bodyPost_ret (results_t4 rfl _ _ _) rfl ?_; exact HE.out)
set_option maxHeartbeats 8000000 in
set_option maxRecDepth 100000 in
theorem yreadMore_any (w : World) (R : List By) (hR : R.length = 512) : Calls Tryd.prog 22 #[.agg (rc R)] w (RmA w R) := by
  obtain ⟨P, hP⟩ : ∃ P : Ending → World → Prop, P = RmA w R := ⟨_, rfl⟩
  rw [← hP]
  obtain ⟨g, hg⟩ : ∃ g, w.heap.size = g := ⟨_, rfl⟩
  obtain ⟨W1, hW1⟩ : ∃ W1, w.alloc (.cells (rc R) 36) = W1 := ⟨_, rfl⟩
  have hN1 : Nw w W1 := by rw [← hW1]; exact (Fr.refl _ _).alloc _
  have hr1 : RcO g R W1 := by rw [← hW1, ← hg]; exact nHeap _ _
  have HRd : Hid (∀ V, Calls Tryd.prog 39 #[.agg (rc R), .int .i64 0, .int .i64 21] V (YrA V (rdO R 21 0 []))) := fun V => yranges_any V R hR 0 21 (by omega)
  unfold YrA at HRd
  have HBad : Hid (∀ V (e : Nat), Nw w V → (rdO R 21 0 []).2 = e → e ≠ 0 → P (.returned (.tuple #[.slice none 0 0, .bool false, .int .i64 (e : Int)])) V) := fun V e h1 h2 h3 => by
    rw [hP]
    exact ⟨none, 0, 0, false, by rw [h2], h1, fun h => absurd (h2 ▸ h) h3, fun _ => ⟨rfl, rfl, rfl, rfl⟩⟩
  have HOk : Hid (∀ V a m c B, Nw w V → (rdO R 21 0 []).2 = 0 → NewG w (.slice a m c) (rgL (rdO R 21 0 []).1) V → B = decide (R.getD 504 0 ≠ 0#8) → P (.returned (.tuple #[.slice a m c, .bool B, .int .i64 0])) V) := fun V a m c B h1 h2 h3 h4 => by
    rw [hP]
    exact ⟨a, m, c, B, by rw [h2]; rfl, h1, fun _ => ⟨h3, h4⟩, fun h => absurd h2 h⟩
  have HN1 := tHid hN1
  have HIn := tHid (rc_info R hR)
  have HC : Hid (∀ V, Nw W1 V → V.cell? ⟨g, 504, none⟩ = some (.int .u8 (R[504]'(by omega)).toNat)) := fun V hV => RcO.at (Nw.heap hV hr1) 504 (by omega)
  have hB := flagB R 504 (by omega)
  have HR1 : Hid (W1.heap[g]? = some (.cells (rc R) 36)) := hr1
  clear hP hr1 hN1
  generalize (R[504]'(by omega)).toNat = y at *
  rw [← hB] at HOk
  clear hB
  generalize hE1 : (rdO R 21 0 []).2 = E1 at *
  clear hE1
  generalize rc R = C at *
  by_cases h1 : E1 = 0
  · subst h1
    go_enter Tryd.func22, Tryd.ntmps22
    go_upto_region 4 with (first
      | (refine wpList_load_row rfl 36 _ rfl g (by first | rfl | simp [Act.eval]) 36 _ (0, 0) _ HR1.out Tryd.underlying36 rfl HIn.out ?_)
      | (go_at_call 39; with_reducible refine (HRd.out _).mono ?_; rintro e w3 ⟨a, m, c, rfl, H3⟩))
    have q1 := HC.out w3 H3.out.1
    have HE : Hid (∀ n, P (.returned (.tuple #[.slice a m c, .bool ((y : Int) != 0), .int .i64 0])) (w3.drewN n)) := fun n => HOk.out _ a m c _ (HN1.out.trans (H3.out.1.trans ((Fr.refl _ _).drewN _))) (by first | trivial | rfl) (newG_from ((H3.out.2.1 (by first | trivial | rfl)).nw ((Fr.refl _ _).drewN _)) HN1.out.size) rfl
    go_quiet (fail)
    go_wp2_with fail
    first | exact HE.out _ | (go_ret; exact HE.out _)
  · have h1i : ¬ ((E1 : Int) = 0) := by omega
    go_enter Tryd.func22, Tryd.ntmps22
    go_wp2_with (first
      | (refine wpList_load_row rfl 36 _ rfl g (by first | rfl | simp [Act.eval]) 36 _ (0, 0) _ HR1.out Tryd.underlying36 rfl HIn.out ?_)
      | (go_at_call 39; with_reducible refine (HRd.out _).mono ?_; rintro e w3 ⟨a, m, c, rfl, H3⟩))
    have HE := tHid (HBad.out w3 E1 (HN1.out.trans H3.out.1) rfl h1)
    first | exact HE.out | (go_ret; exact HE.out)
end Go.Proofs.YtffhpoilifgcdaaDoor

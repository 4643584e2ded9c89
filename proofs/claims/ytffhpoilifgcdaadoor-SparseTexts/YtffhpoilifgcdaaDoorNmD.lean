import Derived.Test.YtffhpoilifgcdaaDoorNmC
namespace Go.Proofs.YtffhpoilifgcdaaDoor
open Go.RowKit
set_option linter.unusedVariables false
/-! ### The document's number and Read -/
def RnA (w : World) (P : Nat) (r : Nat × Nat × Nat) (e : Ending) (V : World) : Prop := ∃ q : Nat, e = .returned (.tuple #[.int .i64 (r.1 : Int), .int .i64 (q : Int), .int .i64 (r.2.2 : Int)]) ∧ Hid (Nw w V ∧ (q = P + r.2.1 ∨ r.2.2 ≠ 0))
def badF (N I y : Nat) : Prop := y < 48 ∨ 57 < y ∨ (0 < I ∧ N = 0)
instance (N I y : Nat) : Decidable (badF N I y) := by unfold badF; infer_instance
set_option maxHeartbeats 16000000 in
set_option maxRecDepth 100000 in
theorem rnumber_any {X : Nat → Prop} (w : World) (a : Option Addr) (n c P : Nat) (b : List By) (hb : Sl X (.slice a n c) b w) (hn : n ≤ 140737488351232) (hP : P ≤ n) :
    Calls Tryd.prog 30 #[.slice a n c, .int .i64 P] w (RnA w P (nr 0 0 (b.drop P))) := by
  obtain ⟨Q, hQ⟩ : ∃ Q : Ending → World → Prop, Q = RnA w P (nr 0 0 (b.drop P)) := ⟨_, rfl⟩
  rw [← hQ]
  obtain ⟨hbn, k1, k2⟩ := slx_len hb
  have HBad : Hid (∀ V (e q : Nat), e ≠ 0 → Nw w V → nr 0 0 (b.drop P) = (0, 0, e) → Q (.returned (.tuple #[.int .i64 0, .int .i64 (q : Int), .int .i64 (e : Int)])) V) := fun V e q h0 hV he => by
    rw [hQ, he]
    exact ⟨q, rfl, hV, .inr h0⟩
  have HOk : Hid (∀ V N I, Nw w V → nr 0 0 (b.drop P) = (N, I + 1, 0) → Q (.returned (.tuple #[.int .i64 (N : Int), .int .i64 ((P + (I + 1) : Nat) : Int), .int .i64 0])) V) := fun V N I hV he => by
    rw [hQ, he]
    exact ⟨P + (I + 1), rfl, hV, .inl rfl⟩
  have HCB : Hid (∀ V, Nw w V → ∀ i (h : i < b.length), ∃ g o, a = some ⟨g, o, none⟩ ∧ V.cell? ⟨g, o + i, none⟩ = some (.int .u8 b[i].toNat)) := fun V hV i h => slx_at (hb.nw hV) i h
  have HBN := tHid hbn
  clear hQ hb hbn
  go_enter Tryd.func30, Tryd.ntmps30
  go_upto_region 2 with fail
  go_loopg [1, 7] n (fun kx at_ nn wr => ∃ (I N A : Nat), A = P + I ∧ A ≤ n ∧ n - A ≤ kx ∧ N ≤ 9223372036854775807 ∧ at_ = .int .i64 A ∧ nn = .int .i64 N ∧ Hid (Nw w wr ∧ nr 0 0 (b.drop P) = nr N I (b.drop (P + I)) ∧ (0 < I → (N = 0 ↔ b[P]? = some 48#8)) ∧ (I = 0 → N = 0)))
  case atStart => exact ⟨0, 0, P, rfl, hP, by omega, by omega, rfl, rfl, Fr.refl _ _, rfl, (fun h => by omega), fun _ => rfl⟩
  case round =>
    obtain ⟨I, N, A, hA, hAn, hkx, hN, rfl, rfl, HI⟩ := hrel
    obtain ⟨hNw, hnr, hz0, hI0N⟩ := HI.out
    have HA := tHid hA
    by_cases hlt : A < n
    · have hltb : P + I < b.length := by have := HBN.out; omega
      have hltP : P < b.length := by omega
      obtain ⟨g, o, rfl, hcell⟩ := HCB.out wr hNw (P + I) hltb
      obtain ⟨g2, o2, e, hcP⟩ := HCB.out wr hNw P hltP
      injection e with e
      injection e with e2 e3
      subst e2 e3
      rw [List.drop_eq_getElem_cons hltb] at hnr
      have hy8 := (b[P + I]'hltb).isLt
      have hxe : ∀ z : Nat, z < 256 → (b[P + I]'hltb).toNat = z → b[P + I]'hltb = BitVec.ofNat 8 z := fun z hz h => BitVec.eq_of_toNat_eq (by rw [h, BitVec.toNat_ofNat]; omega)
      have hPz : (b[P]? = some 48#8) ↔ (b[P]'hltP).toNat = 48 := by
        rw [List.getElem?_eq_getElem hltP]
        constructor
        · intro h; injection h with h; rw [h]; rfl
        · intro h; congr 1; exact BitVec.eq_of_toNat_eq (by rw [h]; rfl)
      have hPI : I = 0 → (b[P]'hltP).toNat = (b[P + I]'hltb).toNat := fun h => by subst h; rfl
      obtain ⟨y, hy⟩ : ∃ y, (b[P + I]'hltb).toNat = y := ⟨_, rfl⟩
      obtain ⟨yP, hyP⟩ : ∃ yP, (b[P]'hltP).toNat = yP := ⟨_, rfl⟩
      rw [hyP] at hcP hPz
      rw [hyP, hy] at hPI
      rw [hPz] at hz0
      rw [hy] at hcell hy8
      rw [← hA] at hcell
      have HLF : Hid (y = 10 → 0 < I → nr 0 0 (b.drop P) = (N, I + 1, 0)) := fun h1 h2 => by
        rw [hnr, hxe 10 (by omega) (by rw [hy, h1])]; exact nr_lf _ _ _ h2
      have HBB : Hid (¬ (y = 10 ∧ 0 < I) → badD N I y → nr 0 0 (b.drop P) = (0, 0, 3)) := fun h1 h2 => by
        rw [hnr]
        exact nr_bad _ _ _ _ (fun h => h1 ⟨by rw [← hy, h.1]; rfl, h.2⟩) (by rw [hy]; exact h2)
      have HGO : Hid (¬ (y = 10 ∧ 0 < I) → ¬ badD N I y → nr 0 0 (b.drop P) = nr (N * 10 + (y - 48)) (I + 1) (b.drop (P + (I + 1)))) := fun h1 h2 => by
        rw [hnr, nr_go _ _ _ _ (fun h => h1 ⟨by rw [← hy, h.1]; rfl, h.2⟩) (by rw [hy]; exact h2), hy]
        rfl
      have HPz := tHid hPz
      have HZ0 := tHid (And.intro hz0 hPI)
      have HI0N := tHid hI0N
      have HN := tHid hNw
      clear HI hnr hxe hy hNw hz0 hPI hyP hPz hI0N hA
      have hAl : (A : Int) < (n : Int) := by omega
      by_cases h10 : y = 10
      · subst h10
        by_cases hI0 : 0 < I
        · have HQ := tHid (HOk.out wr N I HN.out (HLF.out rfl hI0))
          have hne : ¬ ((A : Int) = (P : Int)) := by have := HA.out; omega
          have hne2 : ((A : Int) == (P : Int)) = false := by rw [beq_eq_false_iff_ne]; exact hne
          obtain ⟨A1, hA1⟩ : ∃ A1, P + (I + 1) = A1 := ⟨_, rfl⟩
          rw [hA1] at HQ
          have j1 : (A : Int) + 1 = (A1 : Int) := by have := HA.out; omega
          clear HBad HOk HCB HLF HBB HGO HN HA hA1 HPz HZ0
          go_wp2_with fail
          first | exact HQ.out | (go_ret; exact HQ.out)
        · have HQ := tHid (HBad.out wr 3 A (by omega) HN.out (HBB.out (fun h => hI0 h.2) (.inl (by omega))))
          have hAP : A = P := by have := HA.out; omega
          clear HBad HOk HCB HLF HBB HGO HN HA HPz HZ0
          subst hAP
          go_wp2_with fail
          first | exact HQ.out | (go_ret; exact HQ.out)
      · have h10i : ¬ ((y : Int) = 10) := by omega
        have h10b : ((y : Int) == 10) = false := by rw [beq_eq_false_iff_ne]; exact h10i
        have hnB : ¬ (y = 10 ∧ 0 < I) := fun h => h10 h.1
        obtain ⟨C, hC⟩ : ∃ C, decide (badF N I y) = C := ⟨_, rfl⟩
        have HC := tHid hC
        have HNB := tHid hnB
        clear hC hnB
        go_upto_region 8 with fail
        go_cut [52] from 29 to 52 (fun q wx => q = .bool C ∧ wr = wx)
        case first =>
          have hCt : badF N I y → C = true := fun h => by rw [← HC.out]; exact decide_eq_true h
          have hCf : ¬ badF N I y → C = false := fun h => by rw [← HC.out]; exact decide_eq_false h
          obtain ⟨hz0, hPI⟩ := HZ0.out
          have hA := HA.out
          clear HBad HOk HCB HLF HBB HGO HN HC HNB HA HPz HZ0
          by_cases h48 : y < 48
          · have : C = true := hCt (.inl h48)
            subst this
            have h48i : (y : Int) < 48 := by omega
            clear hCt hCf hA hz0 hPI
            go_wp2_with fail
            go_meet
            exact ⟨rfl, rfl⟩
          · have h48i : ¬ (y : Int) < 48 := by omega
            by_cases h57 : 57 < y
            · have : C = true := hCt (.inr (.inl h57))
              subst this
              have h57i : (57 : Int) < (y : Int) := by omega
              clear hCt hCf hA hz0 hPI
              go_wp2_with fail
              go_meet
              exact ⟨rfl, rfl⟩
            · have h57i : ¬ (57 : Int) < (y : Int) := by omega
              by_cases hI0 : 0 < I
              · have hAPi : (P : Int) < (A : Int) := by omega
                by_cases hN0 : N = 0
                · have : C = true := hCt (.inr (.inr ⟨hI0, hN0⟩))
                  subst this
                  have hyP : yP = 48 := (hz0 hI0).1 hN0
                  subst hyP
                  have hPn : (P : Int) < (n : Int) := by omega
                  clear hCt hCf hA hz0 hPI hN0
                  go_wp2_with fail
                  go_meet
                  exact ⟨rfl, rfl⟩
                · have : C = false := hCf (fun h => by rcases h with h | h | h; exact h48 h; exact h57 h; exact hN0 h.2)
                  subst this
                  have hyP : ((yP : Int) == 48) = false := by rw [beq_eq_false_iff_ne]; intro h; exact hN0 ((hz0 hI0).2 (by omega))
                  have hPn : (P : Int) < (n : Int) := by omega
                  clear hCt hCf hA hz0 hPI
                  go_wp2_with fail
                  go_meet
                  exact ⟨rfl, rfl⟩
              · have : C = false := hCf (fun h => by rcases h with h | h | h; exact h48 h; exact h57 h; exact hI0 h.1)
                subst this
                have hAPi : ¬ (P : Int) < (A : Int) := by omega
                clear hCt hCf hA hz0 hPI
                go_wp2_with fail
                go_meet
                exact ⟨rfl, rfl⟩
        case rest =>
        obtain ⟨rfl, hwc⟩ := hcut
        subst hwc
        have hCC := HC.out
        cases C with
        | true =>
          have hbF := of_decide_eq_true hCC
          have HQ := tHid (HBad.out wr 3 A (by omega) HN.out (HBB.out HNB.out (by rcases hbF with h | h | h; exact .inl h; exact .inr (.inl h); exact .inr (.inr (.inl h)))))
          clear HBad HOk HCB HLF HBB HGO HN HC HNB hCC hbF HPz HZ0
          go_wp2_with fail
          first | exact HQ.out | (go_ret; exact HQ.out)
        | false =>
          have hnF := of_decide_eq_false hCC
          have h48 : 48 ≤ y := Nat.le_of_not_lt (fun h => hnF (.inl h))
          have h57 : y ≤ 57 := Nat.le_of_not_lt (fun h => hnF (.inr (.inl h)))
          have hz : ¬ (0 < I ∧ N = 0) := fun h => hnF (.inr (.inr h))
          obtain ⟨dn, hdn⟩ : ∃ dn, y - 48 = dn := ⟨_, rfl⟩
          have hdi : (y : Int) - 48 = (dn : Int) := by omega
          have hd9 : dn ≤ 9 := by omega
          have htd := tdiv10 dn hd9
          obtain ⟨qn, hqn⟩ : ∃ qn, (9223372036854775807 - dn) / 10 = qn := ⟨_, rfl⟩
          rw [hqn] at htd
          have hq1 : ((9223372036854775807 : Int) - (dn : Int)) / 10 = (qn : Int) := by omega
          by_cases hov : qn < N
          · have HQ := tHid (HBad.out wr 3 A (by omega) HN.out (HBB.out HNB.out (.inr (.inr (.inr (by rw [hdn, hqn]; exact hov))))))
            have hovi : (qn : Int) < (N : Int) := by omega
            clear HBad HOk HCB HLF HBB HGO HN HC HNB hCC hnF hz hdn hqn HPz HZ0
            go_wp2_with fail
            first | exact HQ.out | (go_ret; exact HQ.out)
          · have hnb : ¬ badD N I y := fun h => by
              unfold badD at h
              rw [hdn, hqn] at h
              rcases h with h | h | h | h
              · omega
              · omega
              · exact hz h
              · exact hov h
            have hg := HGO.out HNB.out hnb
            rw [hdn] at hg
            have hovi : ¬ (qn : Int) < (N : Int) := by omega
            have hbound : N * 10 + dn ≤ 9223372036854775807 := by
              have h1 : N ≤ (9223372036854775807 - dn) / 10 := by omega
              rw [Nat.le_div_iff_mul_le (by omega)] at h1
              omega
            have hzz : 0 < I + 1 → (N * 10 + dn = 0 ↔ b[P]? = some 48#8) := fun _ => by
              rw [HPz.out]
              obtain ⟨hz0, hPI⟩ := HZ0.out
              by_cases hI0 : I = 0
              · have h1 := hPI hI0
                have h3 := HI0N.out hI0
                constructor
                · intro h; omega
                · intro h; omega
              · have hNz : N ≠ 0 := fun h => hz ⟨by omega, h⟩
                have h2 := hz0 (by omega)
                constructor
                · intro h; omega
                · intro h; exact absurd (h2.2 h) hNz
            obtain ⟨N1, hN1⟩ : ∃ N1, N * 10 = N1 := ⟨_, rfl⟩
            obtain ⟨N2, hN2⟩ : ∃ N2, N1 + dn = N2 := ⟨_, rfl⟩
            rw [hN1, hN2] at hg hbound hzz
            have j1 : (N : Int) * 10 = (N1 : Int) := by omega
            have j2 : (N1 : Int) + (dn : Int) = (N2 : Int) := by omega
            have j3 : N1 ≤ 9223372036854775807 := by omega
            have HNX : Hid (Nw w wr ∧ nr 0 0 (b.drop P) = nr N2 (I + 1) (b.drop (P + (I + 1))) ∧ (0 < I + 1 → (N2 = 0 ↔ b[P]? = some 48#8)) ∧ (I + 1 = 0 → N2 = 0)) := ⟨HN.out, hg, hzz, fun h => by omega⟩
            have HA1 : Hid (A + 1 = P + (I + 1)) := by show _ = _; have := HA.out; omega
            clear HBad HOk HCB HLF HBB HGO HN HC HNB hCC hnF hz hnb hg hdn hqn hN1 hN2 HPz HZ0 hzz HA
            go_wp2_with fail
            go_roundg (n - (A + 1))
            case measure => omega
            case rel => exact ⟨I + 1, N2, A + 1, HA1.out, by omega, by omega, by omega, by first | rfl | (congr 1), rfl, HNX⟩
    · have HQ := tHid (HBad.out wr 4 A (by omega) hNw (by rw [hnr, List.drop_eq_nil_of_le (by have := HBN.out; omega)]; rfl))
      obtain rfl : n = A := by omega
      clear HBad HOk HCB HI hNw hnr HA hA hz0 hI0N
      go_wp2_with fail
      first | exact HQ.out | (go_ret; exact HQ.out)
end Go.Proofs.YtffhpoilifgcdaaDoor

import Derived.Test.YtffhpoilifgcdaaDoorVbr
namespace Go.Proofs.YtffhpoilifgcdaaDoor
open Go.RowKit
set_option linter.unusedVariables false
/-! ### The document's number and Read -/
def RnA (w : World) (P : Nat) (r : Nat × Nat × Nat) (e : Ending) (V : World) : Prop := ∃ q : Nat, e = .returned (.tuple #[.int .i64 (r.1 : Int), .int .i64 (q : Int), .int .i64 (r.2.2 : Int)]) ∧ Hid (Nw w V ∧ (q = P + r.2.1 ∨ r.2.2 ≠ 0))
def badF (N I y : Nat) : Prop := y < 48 ∨ 57 < y ∨ (0 < I ∧ N = 0)
instance (N I y : Nat) : Decidable (badF N I y) := by unfold badF; infer_instance
set_option maxHeartbeats 16000000 in
set_option maxRecDepth 100000 in
theorem rnumber15_any {X : Nat → Prop} (w : World) (a : Option Addr) (n c P : Nat) (b : List By) (hb : Sl X (.slice a n c) b w) (hn : n ≤ 140737488351232) (hP : P ≤ n) :
    Calls Tryd.prog 30 #[.slice a n c, .int .i64 P] w (RnA w P (nr 0 0 (b.drop P))) := by
  obtain ⟨Q, hQ⟩ : ∃ Q : Ending → World → Prop, Q = RnA w P (nr 0 0 (b.drop P)) := ⟨_, rfl⟩
  rw [← hQ]
  obtain ⟨hbn, k1, k2⟩ := slx_len hb
  have HBad : Hid (∀ V (e q : Nat), e ≠ 0 → Nw w V → nr 0 0 (b.drop P) = (0, 0, e) → Q (.returned (.tuple #[.int .i64 0, .int .i64 (q : Int), .int .i64 (e : Int)])) V) := fun V e q h0 hV he => by
    rw [hQ, he]
    exact ⟨q, rfl, hV, .inr h0⟩
  have HOk : Hid (∀ V N I, Nw w V → nr 0 0 (b.drop P) = (N, I + 1, 0) → Q (.returned (.tuple #[.int .i64 (N : Int), .int .i64 ((P + (I + 1) : Nat) : Int), .int .i64 0])) V) := fun V N I hV he => by
    rw [hQ, he]
    exact ⟨P + (I + 1), rfl, hV, .inl rfl⟩
  have HCB : Hid (∀ V, Nw w V → ∀ i (h : i < b.length), ∃ g o, a = some ⟨g, o, none⟩ ∧ V.cell? ⟨g, o + i, none⟩ = some (.int .u8 b[i].toNat)) := fun V hV i h => slx_at (hb.nw hV) i h
  have HBN := tHid hbn
  clear hQ hb hbn
  go_enter Tryd.func30, Tryd.ntmps30
  go_upto_region 2 with fail
  go_loopg [1, 7] n (fun kx at_ nn wr => ∃ (I N A : Nat), A = P + I ∧ A ≤ n ∧ n - A ≤ kx ∧ N ≤ 9223372036854775807 ∧ at_ = .int .i64 A ∧ nn = .int .i64 N ∧ Hid (Nw w wr ∧ nr 0 0 (b.drop P) = nr N I (b.drop (P + I)) ∧ (0 < I → (N = 0 ↔ b[P]? = some 48#8)) ∧ (I = 0 → N = 0)))
  case atStart => exact ⟨0, 0, P, rfl, hP, by omega, by omega, rfl, rfl, Fr.refl _ _, rfl, (fun h => by omega), fun _ => rfl⟩
  case round =>
    obtain ⟨I, N, A, hA, hAn, hkx, hN, rfl, rfl, HI⟩ := hrel
    obtain ⟨hNw, hnr, hz0, hI0N⟩ := HI.out
    have HA := tHid hA
    by_cases hlt : A < n
    · have hltb : P + I < b.length := by have := HBN.out; omega
      have hltP : P < b.length := by omega
      obtain ⟨g, o, rfl, hcell⟩ := HCB.out wr hNw (P + I) hltb
      obtain ⟨g2, o2, e, hcP⟩ := HCB.out wr hNw P hltP
      injection e with e
      injection e with e2 e3
      subst e2 e3
      rw [List.drop_eq_getElem_cons hltb] at hnr
      have hy8 := (b[P + I]'hltb).isLt
      have hxe : ∀ z : Nat, z < 256 → (b[P + I]'hltb).toNat = z → b[P + I]'hltb = BitVec.ofNat 8 z := fun z hz h => BitVec.eq_of_toNat_eq (by rw [h, BitVec.toNat_ofNat]; omega)
      have hPz : (b[P]? = some 48#8) ↔ (b[P]'hltP).toNat = 48 := by
        rw [List.getElem?_eq_getElem hltP]
        constructor
        · intro h; injection h with h; rw [h]; rfl
        · intro h; congr 1; exact BitVec.eq_of_toNat_eq (by rw [h]; rfl)
      have hPI : I = 0 → (b[P]'hltP).toNat = (b[P + I]'hltb).toNat := fun h => by subst h; rfl
      obtain ⟨y, hy⟩ : ∃ y, (b[P + I]'hltb).toNat = y := ⟨_, rfl⟩
      obtain ⟨yP, hyP⟩ : ∃ yP, (b[P]'hltP).toNat = yP := ⟨_, rfl⟩
      rw [hyP] at hcP hPz
      rw [hyP, hy] at hPI
      rw [hPz] at hz0
      rw [hy] at hcell hy8
      rw [← hA] at hcell
      have HLF : Hid (y = 10 → 0 < I → nr 0 0 (b.drop P) = (N, I + 1, 0)) := fun h1 h2 => by
        rw [hnr, hxe 10 (by omega) (by rw [hy, h1])]; exact nr_lf _ _ _ h2
      have HBB : Hid (¬ (y = 10 ∧ 0 < I) → badD N I y → nr 0 0 (b.drop P) = (0, 0, 3)) := fun h1 h2 => by
        rw [hnr]
        exact nr_bad _ _ _ _ (fun h => h1 ⟨by rw [← hy, h.1]; rfl, h.2⟩) (by rw [hy]; exact h2)
      have HGO : Hid (¬ (y = 10 ∧ 0 < I) → ¬ badD N I y → nr 0 0 (b.drop P) = nr (N * 10 + (y - 48)) (I + 1) (b.drop (P + (I + 1)))) := fun h1 h2 => by
        rw [hnr, nr_go _ _ _ _ (fun h => h1 ⟨by rw [← hy, h.1]; rfl, h.2⟩) (by rw [hy]; exact h2), hy]
        rfl
      have HPz := tHid hPz
      have HZ0 := tHid (And.intro hz0 hPI)
      have HI0N := tHid hI0N
      have HN := tHid hNw
      clear HI hnr hxe hy hNw hz0 hPI hyP hPz hI0N hA
      have hAl : (A : Int) < (n : Int) := by omega
      by_cases h10 : y = 10
      · subst h10
        by_cases hI0 : 0 < I
        · have HQ := tHid (HOk.out wr N I HN.out (HLF.out rfl hI0))
          have hne : ¬ ((A : Int) = (P : Int)) := by have := HA.out; omega
          have hne2 : ((A : Int) == (P : Int)) = false := by rw [beq_eq_false_iff_ne]; exact hne
          obtain ⟨A1, hA1⟩ : ∃ A1, P + (I + 1) = A1 := ⟨_, rfl⟩
          rw [hA1] at HQ
          have j1 : (A : Int) + 1 = (A1 : Int) := by have := HA.out; omega
          clear HBad HOk HCB HLF HBB HGO HN HA hA1 HPz HZ0
          go_wp2_with fail
          first | exact HQ.out | (go_ret; exact HQ.out)
        · have HQ := tHid (HBad.out wr 3 A (by omega) HN.out (HBB.out (fun h => hI0 h.2) (.inl (by omega))))
          have hAP : A = P := by have := HA.out; omega
          clear HBad HOk HCB HLF HBB HGO HN HA HPz HZ0
          subst hAP
          go_wp2_with fail
          first | exact HQ.out | (go_ret; exact HQ.out)
      · have h10i : ¬ ((y : Int) = 10) := by omega
        have h10b : ((y : Int) == 10) = false := by rw [beq_eq_false_iff_ne]; exact h10i
        have hnB : ¬ (y = 10 ∧ 0 < I) := fun h => h10 h.1
        obtain ⟨C, hC⟩ : ∃ C, decide (badF N I y) = C := ⟨_, rfl⟩
        have HC := tHid hC
        have HNB := tHid hnB
        clear hC hnB
        go_upto_region 8 with fail
        go_cut [52] from 29 to 52 (fun q wx => q = .bool C ∧ wr = wx)
        case first =>
          have hCt : badF N I y → C = true := fun h => by rw [← HC.out]; exact decide_eq_true h
          have hCf : ¬ badF N I y → C = false := fun h => by rw [← HC.out]; exact decide_eq_false h
          obtain ⟨hz0, hPI⟩ := HZ0.out
          have hA := HA.out
          clear HBad HOk HCB HLF HBB HGO HN HC HNB HA HPz HZ0
          by_cases h48 : y < 48
          · have : C = true := hCt (.inl h48)
            subst this
            have h48i : (y : Int) < 48 := by omega
            clear hCt hCf hA hz0 hPI
            go_wp2_with fail
            go_meet
            exact ⟨rfl, rfl⟩
          · have h48i : ¬ (y : Int) < 48 := by omega
            by_cases h57 : 57 < y
            · have : C = true := hCt (.inr (.inl h57))
              subst this
              have h57i : (57 : Int) < (y : Int) := by omega
              clear hCt hCf hA hz0 hPI
              go_wp2_with fail
              go_meet
              exact ⟨rfl, rfl⟩
            · have h57i : ¬ (57 : Int) < (y : Int) := by omega
              by_cases hI0 : 0 < I
              · have hAPi : (P : Int) < (A : Int) := by omega
                by_cases hN0 : N = 0
                · have : C = true := hCt (.inr (.inr ⟨hI0, hN0⟩))
                  subst this
                  have hyP : yP = 48 := (hz0 hI0).1 hN0
                  subst hyP
                  have hPn : (P : Int) < (n : Int) := by omega
                  clear hCt hCf hA hz0 hPI hN0
                  go_wp2_with fail
                  go_meet
                  exact ⟨rfl, rfl⟩
                · have : C = false := hCf (fun h => by rcases h with h | h | h; exact h48 h; exact h57 h; exact hN0 h.2)
                  subst this
                  have hyP : ((yP : Int) == 48) = false := by rw [beq_eq_false_iff_ne]; intro h; exact hN0 ((hz0 hI0).2 (by omega))
                  have hPn : (P : Int) < (n : Int) := by omega
                  clear hCt hCf hA hz0 hPI
                  go_wp2_with fail
                  go_meet
                  exact ⟨rfl, rfl⟩
              · have : C = false := hCf (fun h => by rcases h with h | h | h; exact h48 h; exact h57 h; exact hI0 h.1)
                subst this
                have hAPi : ¬ (P : Int) < (A : Int) := by omega
                clear hCt hCf hA hz0 hPI
                go_wp2_with fail
                go_meet
                exact ⟨rfl, rfl⟩
        case rest =>
        obtain ⟨rfl, hwc⟩ := hcut
        subst hwc
        have hCC := HC.out
        cases C with
        | true =>
          have hbF := of_decide_eq_true hCC
          have HQ := tHid (HBad.out wr 3 A (by omega) HN.out (HBB.out HNB.out (by rcases hbF with h | h | h; exact .inl h; exact .inr (.inl h); exact .inr (.inr (.inl h)))))
          clear HBad HOk HCB HLF HBB HGO HN HC HNB hCC hbF HPz HZ0
          go_wp2_with fail
          first | exact HQ.out | (go_ret; exact HQ.out)
        | false =>
          have hnF := of_decide_eq_false hCC
          have h48 : 48 ≤ y := Nat.le_of_not_lt (fun h => hnF (.inl h))
          have h57 : y ≤ 57 := Nat.le_of_not_lt (fun h => hnF (.inr (.inl h)))
          have hz : ¬ (0 < I ∧ N = 0) := fun h => hnF (.inr (.inr h))
          obtain ⟨dn, hdn⟩ : ∃ dn, y - 48 = dn := ⟨_, rfl⟩
          have hdi : (y : Int) - 48 = (dn : Int) := by omega
          have hd9 : dn ≤ 9 := by omega
          have htd := tdiv10 dn hd9
          obtain ⟨qn, hqn⟩ : ∃ qn, (9223372036854775807 - dn) / 10 = qn := ⟨_, rfl⟩
          rw [hqn] at htd
          have hq1 : ((9223372036854775807 : Int) - (dn : Int)) / 10 = (qn : Int) := by omega
          by_cases hov : qn < N
          · have HQ := tHid (HBad.out wr 3 A (by omega) HN.out (HBB.out HNB.out (.inr (.inr (.inr (by rw [hdn, hqn]; exact hov))))))
            have hovi : (qn : Int) < (N : Int) := by omega
            clear HBad HOk HCB HLF HBB HGO HN HC HNB hCC hnF hz hdn hqn HPz HZ0
            go_wp2_with fail
            first | exact HQ.out | (go_ret; exact HQ.out)
          · have hnb : ¬ badD N I y := fun h => by
              unfold badD at h
              rw [hdn, hqn] at h
              rcases h with h | h | h | h
              · omega
              · omega
              · exact hz h
              · exact hov h
            have hg := HGO.out HNB.out hnb
            rw [hdn] at hg
            have hovi : ¬ (qn : Int) < (N : Int) := by omega
            have hbound : N * 10 + dn ≤ 9223372036854775807 := by
              have h1 : N ≤ (9223372036854775807 - dn) / 10 := by omega
              rw [Nat.le_div_iff_mul_le (by omega)] at h1
              omega
            have hzz : 0 < I + 1 → (N * 10 + dn = 0 ↔ b[P]? = some 48#8) := fun _ => by
              rw [HPz.out]
              obtain ⟨hz0, hPI⟩ := HZ0.out
              by_cases hI0 : I = 0
              · have h1 := hPI hI0
                have h3 := HI0N.out hI0
                constructor
                · intro h; omega
                · intro h; omega
              · have hNz : N ≠ 0 := fun h => hz ⟨by omega, h⟩
                have h2 := hz0 (by omega)
                constructor
                · intro h; omega
                · intro h; exact absurd (h2.2 h) hNz
            obtain ⟨N1, hN1⟩ : ∃ N1, N * 10 = N1 := ⟨_, rfl⟩
            obtain ⟨N2, hN2⟩ : ∃ N2, N1 + dn = N2 := ⟨_, rfl⟩
            rw [hN1, hN2] at hg hbound hzz
            have j1 : (N : Int) * 10 = (N1 : Int) := by omega
            have j2 : (N1 : Int) + (dn : Int) = (N2 : Int) := by omega
            have j3 : N1 ≤ 9223372036854775807 := by omega
            have HNX : Hid (Nw w wr ∧ nr 0 0 (b.drop P) = nr N2 (I + 1) (b.drop (P + (I + 1))) ∧ (0 < I + 1 → (N2 = 0 ↔ b[P]? = some 48#8)) ∧ (I + 1 = 0 → N2 = 0)) := ⟨HN.out, hg, hzz, fun h => by omega⟩
            have HA1 : Hid (A + 1 = P + (I + 1)) := by show _ = _; have := HA.out; omega
            clear HBad HOk HCB HLF HBB HGO HN HC HNB hCC hnF hz hnb hg hdn hqn hN1 hN2 HPz HZ0 hzz HA
            go_wp2_with fail
            go_roundg (n - (A + 1))
            case measure => omega
            case rel => exact ⟨I + 1, N2, A + 1, HA1.out, by omega, by omega, by omega, by first | rfl | (congr 1), rfl, HNX⟩
    · have HQ := tHid (HBad.out wr 4 A (by omega) hNw (by rw [hnr, List.drop_eq_nil_of_le (by have := HBN.out; omega)]; rfl))
      obtain rfl : n = A := by omega
      clear HBad HOk HCB HI hNw hnr HA hA hz0 hI0N
      go_wp2_with fail
      first | exact HQ.out | (go_ret; exact HQ.out)
end Go.Proofs.YtffhpoilifgcdaaDoor

namespace Go.Proofs.YtffhpoilifgcdaaDoor
open Go.RowKit
set_option linter.unusedVariables false
structure RrI (w : World) (n : Nat) (b : List By) (cnt I E p g m c : Nat) (R : List (Nat × Nat) × Nat × Nat) (V : World) : Prop where
  nw : Nw w V
  pn : p ≤ n
  ge : w.heap.size ≤ g
  ls : ∃ acc, OwR RG g (.slice (some ⟨g, 0, none⟩) m c) (rgL acc) V ∧ acc.length = I ∧ R = rdA b (cnt - I) E p acc
theorem one1_e1 (b : List By) (e p n1 q1 e1 : Nat) (h1 : nr 0 0 (b.drop p) = (n1, q1, e1)) (he : e1 ≠ 0) : one1 b e p = ((0, 0), 0, e1) := by
  unfold one1; simp only [h1]; rw [if_pos he]
theorem one1_e2 (b : List By) (e p n1 q1 n2 q2 e2 : Nat) (h1 : nr 0 0 (b.drop p) = (n1, q1, 0)) (h2 : nr 0 0 (b.drop (p + q1)) = (n2, q2, e2)) (he : e2 ≠ 0) : one1 b e p = ((0, 0), 0, e2) := by
  unfold one1; simp only [h1, h2]; rw [if_neg (by simp), if_pos he]
theorem one1_e3 (b : List By) (e p n1 q1 n2 q2 : Nat) (h1 : nr 0 0 (b.drop p) = (n1, q1, 0)) (h2 : nr 0 0 (b.drop (p + q1)) = (n2, q2, 0)) (he : n1 < e ∨ 9223372036854775807 - n1 < n2) : one1 b e p = ((0, 0), 0, 3) := by
  unfold one1; simp only [h1, h2]; rw [if_neg (by simp), if_neg (by simp), if_pos he]
theorem one1_e4 (b : List By) (e p n1 q1 n2 q2 : Nat) (h1 : nr 0 0 (b.drop p) = (n1, q1, 0)) (h2 : nr 0 0 (b.drop (p + q1)) = (n2, q2, 0)) (he : ¬ (n1 < e ∨ 9223372036854775807 - n1 < n2)) : one1 b e p = ((n1, n1 + n2), p + q1 + q2, 0) := by
  unfold one1; simp only [h1, h2]; rw [if_neg (by simp), if_neg (by simp), if_neg he]
set_option maxHeartbeats 16000000 in
set_option maxRecDepth 100000 in
theorem rread_any15 {X : Nat → Prop} (w : World) (a : Option Addr) (n c : Nat) (b : List By) (hb : Sl X (.slice a n c) b w) (hn : n ≤ 140737488351232) :
    Calls Tryd.prog 10 #[.slice a n c] w (RdA w b) := by
  obtain ⟨Q, hQ⟩ : ∃ Q : Ending → World → Prop, Q = RdA w b := ⟨_, rfl⟩
  rw [← hQ]
  obtain ⟨hbn, k1, k2⟩ := slx_len hb
  have hrd := rdT_rs b
  have HBad : Hid (∀ V (e : Nat), rdT b = ([], 0, e) → Nw w V → Q (.returned (.tuple #[.slice none 0 0, .int .i64 0, .int .i64 (e : Int)])) V) := fun V e h1 h2 => by
    rw [hQ]
    unfold RdA
    rw [h1]
    exact ⟨none, 0, 0, rfl, h2, none, ⟨rfl, rfl⟩, fun g h => by cases h⟩
  have HOk : Hid (∀ V L p g m c, rdT b = (L, p, 0) → Nw w V → OwR RG g (.slice (some ⟨g, 0, none⟩) m c) (rgL L) V → w.heap.size ≤ g → Q (.returned (.tuple #[.slice (some ⟨g, 0, none⟩) m c, .int .i64 (p : Int), .int .i64 0])) V) := fun V L p g m c h1 h2 h3 h4 => by
    rw [hQ]
    unfold RdA
    rw [h1]
    exact ⟨_, m, c, rfl, h2, some g, h3, fun g' h => by injection h with h; omega⟩
  have HNum : Hid (∀ V p, Nw w V → p ≤ n → Calls Tryd.prog 30 #[.slice a n c, .int .i64 (p : Int)] V fun e V' => ∃ q : Nat, e = .returned (.tuple #[.int .i64 ((nr 0 0 (b.drop p)).1 : Int), .int .i64 (q : Int), .int .i64 ((nr 0 0 (b.drop p)).2.2 : Int)]) ∧ Hid (Nw V V' ∧ (q = p + (nr 0 0 (b.drop p)).2.1 ∨ (nr 0 0 (b.drop p)).2.2 ≠ 0))) := fun V p hV hp => rnumber15_any V a n c p b (hb.nw hV) hn hp
  have HCB : Hid (∀ V, Nw w V → ∀ i (h : i < b.length), ∃ g o, a = some ⟨g, o, none⟩ ∧ V.cell? ⟨g, o + i, none⟩ = some (.int .u8 b[i].toNat)) := fun V hV i h => slx_at (hb.nw hV) i h
  have HLE : Hid ((rsT b).2.2 = 0 → (rsT b).2.1 ≤ n) := fun h => by have := rsT_bound b h; omega
  have HLe2 : Hid (∀ p m k, nr 0 0 (b.drop p) = (m, k, 0) → p ≤ n → p + k ≤ n ∧ m ≤ 9223372036854775807) := fun p m k h1 h2 => by
    have := num_inv _ _ _ h1
    rw [List.length_drop, hbn] at this
    exact ⟨by omega, this.2.2.2⟩
  have hC1 := HNum.out w 0 (Fr.refl _ _) (by omega)
  rw [List.drop_zero] at hC1
  have HBN := tHid hbn
  have HRD := tHid hrd
  clear hQ hb hbn hrd
  cases hr1 : nr 0 0 b with
  | mk cnt r1' =>
  obtain ⟨q1, e1⟩ := r1'
  rw [hr1] at hC1
  simp only [Nat.zero_add] at hC1
  have HC1 : Hid (Calls Tryd.prog 30 #[.slice a n c, .int .i64 0] w fun e V' => ∃ q : Nat, e = .returned (.tuple #[.int .i64 (cnt : Int), .int .i64 (q : Int), .int .i64 (e1 : Int)]) ∧ Hid (Nw w V' ∧ (q = q1 ∨ e1 ≠ 0))) := hC1
  by_cases he1 : e1 = 0
  · subst he1
    obtain ⟨hq1n, hcm⟩ := HLe2.out 0 cnt q1 (by rw [List.drop_zero]; exact hr1) (by omega)
    rw [Nat.zero_add] at hq1n
    by_cases hbig : 65536 < cnt
    · have hrs : rsT b = ([], 0, 2) := by unfold rsT; simp only [hr1]; rw [if_neg (by simp), if_pos hbig]
      have hrd := HRD.out
      rw [hrs] at hrd
      simp only at hrd
      rw [if_pos (by simp)] at hrd
      have hbi : (65536 : Int) < (cnt : Int) := by omega
      have HQ : Hid (∀ V, Nw w V → Q (.returned (.tuple #[.slice none 0 0, .int .i64 0, .int .i64 2])) V) := fun V hV => HBad.out V 2 hrd hV
      clear HNum HOk HCB HLE HLe2 hC1 hr1 hrs hrd HRD HBad
      go_enter Tryd.func10, Tryd.ntmps10
      go_wp2_with (first
        | (go_at_call 30; with_reducible refine HC1.out.mono ?_; rintro e w1 ⟨q, rfl, H1⟩))
      first | exact HQ.out _ H1.out.1 | (go_ret; exact HQ.out _ H1.out.1)
    · have hrs : rsT b = rdA b cnt 0 q1 [] := by unfold rsT; simp only [hr1]; rw [if_neg (by simp), if_neg hbig]
      have hbi : ¬ (65536 : Int) < (cnt : Int) := by omega
      have HRS := tHid hrs
      have HC2 : Hid (Calls Tryd.prog 30 #[.slice a n c, .int .i64 0] w fun e V' => e = .returned (.tuple #[.int .i64 (cnt : Int), .int .i64 (q1 : Int), .int .i64 0]) ∧ Hid (Nw w V')) := HC1.out.mono (fun e V' ⟨q, h1, h2⟩ => by
        rcases h2.out.2 with h | h
        · rw [h] at h1; exact ⟨h1, h2.out.1⟩
        · exact absurd rfl h)
      have HRbad : Hid (∀ V r (e : Nat), rsT b = (r, 0, e) → e ≠ 0 → Nw w V → Q (.returned (.tuple #[.slice none 0 0, .int .i64 0, .int .i64 (e : Int)])) V) := fun V r e h1 h2 hV => HBad.out V e (by rw [HRD.out, h1]; simp only; rw [if_pos h2]) hV
      clear hr1 hrs hC1 HC1
      go_enter Tryd.func10, Tryd.ntmps10
      go_upto_region 6 with (first
        | (go_at_call 30; with_reducible refine HC2.out.mono ?_; rintro e w1 ⟨rfl, H1⟩))
      go_upto_region 9 with fail
      have HI0 : Hid (RrI w n b cnt 0 0 q1 w1.heap.size 0 0 (rsT b) (w1.alloc (.cells #[] 51))) := ⟨H1.out.alloc _, hq1n, H1.out.size, [], OwR.empty (R := RG) w1, rfl, HRS.out⟩
      go_loopg [6, 8, 9, 10] cnt (fun kx p v e i wr => ∃ (I E p' g m' c' : Nat), I ≤ cnt ∧ cnt - I ≤ kx ∧ E ≤ 9223372036854775807 ∧ p = .int .i64 p' ∧ v = .slice (some ⟨g, 0, none⟩) m' c' ∧ e = .int .i64 E ∧ i = .int .i64 I ∧ Hid (RrI w n b cnt I E p' g m' c' (rsT b) wr))
      case atStart => exact ⟨0, 0, q1, w1.heap.size, 0, 0, by omega, by omega, by omega, rfl, rfl, rfl, rfl, HI0⟩
      case round =>
        obtain ⟨I, E, p, g, m', c', hI, hkx, hE, rfl, rfl, rfl, rfl, HI⟩ := hrel
        obtain ⟨hNw, hpn, hge, acc, hO, hal, hR⟩ := HI.out
        by_cases hlt : I < cnt
        · have hIi : (I : Int) < (cnt : Int) := by omega
          have hpb : p ≤ b.length := by rw [HBN.out]; exact hpn
          rw [show cnt - I = (cnt - (I + 1)) + 1 by omega, rdA] at hR
          have hCa := HNum.out wr p hNw hpn
          cases hra : nr 0 0 (b.drop p) with
          | mk n1 ra' =>
          obtain ⟨qa, ea⟩ := ra'
          rw [hra] at hCa
          simp only at hCa
          by_cases hea : ea = 0
          · subst hea
            obtain ⟨hle1, hm1⟩ := HLe2.out p n1 qa hra hpn
            obtain ⟨pa, hpa⟩ : ∃ pa, p + qa = pa := ⟨_, rfl⟩
            rw [hpa] at hle1 hCa
            have HCa : Hid (Calls Tryd.prog 30 #[.slice a n c, .int .i64 (p : Int)] wr fun e V' => e = .returned (.tuple #[.int .i64 (n1 : Int), .int .i64 (pa : Int), .int .i64 0]) ∧ Hid (Nw wr V')) := hCa.mono (fun e V' ⟨q, h1, h2⟩ => by
              rcases h2.out.2 with h | h
              · rw [h] at h1; exact ⟨h1, h2.out.1⟩
              · exact absurd rfl h)
            cases hrb : nr 0 0 (b.drop pa) with
            | mk n2 rb' =>
            obtain ⟨qb, eb⟩ := rb'
            have HCb0 : Hid (∀ V, Nw wr V → Calls Tryd.prog 30 #[.slice a n c, .int .i64 (pa : Int)] V fun e V' => ∃ q : Nat, e = .returned (.tuple #[.int .i64 (n2 : Int), .int .i64 (q : Int), .int .i64 (eb : Int)]) ∧ Hid (Nw V V' ∧ (q = pa + qb ∨ eb ≠ 0))) := fun V hV => by
              have := HNum.out V pa (hNw.trans hV) hle1
              rw [hrb] at this
              exact this
            have hrb' : nr 0 0 (b.drop (p + qa)) = (n2, qb, eb) := by rw [hpa]; exact hrb
            by_cases heb : eb = 0
            · subst heb
              obtain ⟨hle2, hm2⟩ := HLe2.out pa n2 qb hrb hle1
              obtain ⟨pb, hpb2⟩ : ∃ pb, pa + qb = pb := ⟨_, rfl⟩
              rw [hpb2] at hle2 HCb0
              have HCb : Hid (∀ V, Nw wr V → Calls Tryd.prog 30 #[.slice a n c, .int .i64 (pa : Int)] V fun e V' => e = .returned (.tuple #[.int .i64 (n2 : Int), .int .i64 (pb : Int), .int .i64 0]) ∧ Hid (Nw V V')) := fun V hV => (HCb0.out V hV).mono (fun e V' ⟨q, h1, h2⟩ => by
                rcases h2.out.2 with h | h
                · rw [h] at h1; exact ⟨h1, h2.out.1⟩
                · exact absurd rfl h)
              by_cases hbad : n1 < E ∨ 9223372036854775807 - n1 < n2
              · have ho := one1_e3 b E p n1 qa n2 qb hra hrb' hbad
                rw [ho, if_pos (by simp)] at hR
                have HQ : Hid (∀ V, Nw wr V → Q (.returned (.tuple #[.slice none 0 0, .int .i64 0, .int .i64 3])) V) := fun V hV => HRbad.out V _ 3 hR (by omega) (hNw.trans hV)
                clear HNum HOk HCB HLE HLe2 HBad HRbad HI hNw hO hR ho hra hrb hrb' HCb0 hCa HI0 HRD HRS HC2 hpa hpb2
                by_cases hF : n1 < E
                · have hFi : (n1 : Int) < (E : Int) := by omega
                  clear hbad
                  go_wp2_with (first
                    | (go_at_call 30; with_reducible refine HCa.out.mono ?_; rintro e w2 ⟨rfl, H2⟩)
                    | (go_at_call 30; with_reducible refine (HCb.out _ H2.out).mono ?_; rintro e w3 ⟨rfl, H3⟩))
                  first | exact HQ.out _ (H2.out.trans H3.out) | (go_ret; exact HQ.out _ (H2.out.trans H3.out))
                · have hFi : ¬ (n1 : Int) < (E : Int) := by omega
                  have hov : (9223372036854775807 : Int) - (n1 : Int) < (n2 : Int) := by omega
                  clear hbad
                  go_wp2_with (first
                    | (go_at_call 30; with_reducible refine HCa.out.mono ?_; rintro e w2 ⟨rfl, H2⟩)
                    | (go_at_call 30; with_reducible refine (HCb.out _ H2.out).mono ?_; rintro e w3 ⟨rfl, H3⟩))
                  first | exact HQ.out _ (H2.out.trans H3.out) | (go_ret; exact HQ.out _ (H2.out.trans H3.out))
              · have ho := one1_e4 b E p n1 qa n2 qb hra hrb' hbad
                rw [ho, if_neg (by simp)] at hR
                simp only at hR
                rw [hpa, hpb2] at hR
                have hFi : ¬ (n1 : Int) < (E : Int) := by omega
                have hov : ¬ (9223372036854775807 : Int) - (n1 : Int) < (n2 : Int) := by omega
                obtain ⟨T, hT⟩ : ∃ T, n1 + n2 = T := ⟨_, rfl⟩
                rw [hT] at hR
                have hTi : (n1 : Int) + (n2 : Int) = (T : Int) := by omega
                have hTm : T ≤ 9223372036854775807 := by omega
                have HST : Hid (∀ V, Nw wr V → ∃ g2 m2 c2 W, Hid (∀ ty, (Builtin.append_ #[22, 22] ty #[.slice (some ⟨g, 0, none⟩) m' c', .slice (some ⟨V.heap.size, 0, none⟩) 1 1]).run Tryd.prog (V.alloc (.cells #[.int .i64 (n1 : Int), .int .i64 (T : Int)] 51)) = .ok (.slice (some ⟨g2, 0, none⟩) m2 c2) W) ∧ Hid (RrI w n b cnt (I + 1) T pb g2 m2 c2 (rsT b) W)) := fun V hV => by
                  obtain ⟨g2, m2, c2, W, r1, r2, r3, r4⟩ := pushO V g m' c' (rgL acc) (hO.nw hV) (by rw [rgL_len]; omega) ((n1 : Int), (T : Int))
                  refine ⟨g2, m2, c2, W, r1, (hNw.trans hV).then r3 (fun i hi => .inr (by omega)), hle2, ?_, acc ++ [(n1, T)], by rw [rgL_snoc]; exact r2, by rw [List.length_append, List.length_singleton, hal], hR⟩
                  have h5 := (hNw.trans hV).size
                  rcases r4 with e | e <;> omega
                clear HNum HOk HCB HLE HLe2 HBad HRbad HI hNw hO hR ho hra hrb hrb' HCb0 hCa HI0 HRD HRS HC2 hpa hpb2 hT hbad
                go_upto_region 21 with (first
                  | (go_at_call 30; with_reducible refine HCa.out.mono ?_; rintro e w2 ⟨rfl, H2⟩)
                  | (go_at_call 30; with_reducible refine (HCb.out _ H2.out).mono ?_; rintro e w3 ⟨rfl, H3⟩))
                obtain ⟨g2, m2, c2, W, HA, HNX⟩ := HST.out w3 (H2.out.trans H3.out)
                clear HST HCa HCb H2 H3
                go_wp2_with (first
                  | (at_builtin; refine Lib.wpList_append_run _ rfl _ _ 22 22 rfl (.slice (some ⟨g, 0, none⟩) m' c') (.slice (some ⟨w3.heap.size, 0, none⟩) 1 1) (by first | rfl | simp [Act.eval]) (by first | rfl | simp [Act.eval]) _ _ (HA.out _) ?_))
                go_roundg (cnt - (I + 1))
                case measure => omega
                case rel => exact ⟨I + 1, T, pb, g2, m2, c2, by omega, by omega, hTm, rfl, rfl, rfl, by first | rfl | (congr 1), HNX⟩
            · have ho := one1_e2 b E p n1 qa n2 qb eb hra hrb' heb
              rw [ho, if_pos heb] at hR
              have hebi : ¬ ((eb : Int) = 0) := by omega
              have HQ : Hid (∀ V, Nw wr V → Q (.returned (.tuple #[.slice none 0 0, .int .i64 0, .int .i64 (eb : Int)])) V) := fun V hV => HRbad.out V _ eb hR heb (hNw.trans hV)
              clear HNum HOk HCB HLE HLe2 HBad HRbad HI hNw hO hR ho hra hrb hrb' hCa HI0 HRD HRS HC2 hpa
              go_wp2_with (first
                | (go_at_call 30; with_reducible refine HCa.out.mono ?_; rintro e w2 ⟨rfl, H2⟩)
                | (go_at_call 30; with_reducible refine (HCb0.out _ H2.out).mono ?_; rintro e w3 ⟨qq, rfl, H3⟩))
              first | exact HQ.out _ (H2.out.trans H3.out.1) | (go_ret; exact HQ.out _ (H2.out.trans H3.out.1))
          · have ho := one1_e1 b E p n1 qa ea hra hea
            rw [ho, if_pos hea] at hR
            have heai : ¬ ((ea : Int) = 0) := by omega
            have HQ : Hid (∀ V, Nw wr V → Q (.returned (.tuple #[.slice none 0 0, .int .i64 0, .int .i64 (ea : Int)])) V) := fun V hV => HRbad.out V _ ea hR hea (hNw.trans hV)
            have HCa := tHid hCa
            clear HNum HOk HCB HLE HLe2 HBad HRbad HI hNw hO hR ho hra hCa HI0 HRD HRS HC2
            go_wp2_with (first
              | (go_at_call 30; with_reducible refine HCa.out.mono ?_; rintro e w2 ⟨qq, rfl, H2⟩))
            first | exact HQ.out _ H2.out.1 | (go_ret; exact HQ.out _ H2.out.1)
        · have hIc : I = cnt := by omega
          rw [show cnt - I = 0 by omega, rdA] at hR
          have HRR : Hid (rdT b = if (zrF b (padN p) p).2 ≠ 0 then ([], 0, (zrF b (padN p) p).2) else (acc, (zrF b (padN p) p).1, 0)) := by
            show _ = _
            rw [HRD.out, hR]
            simp only
            rw [if_neg (by simp)]
          have HOw := tHid hO
          have HNr := tHid hNw
          have HGe := tHid hge
          subst hIc
          clear HNum HLE HLe2 HRbad HI hNw hO hR HI0 HRD HRS HC2 hge
          obtain ⟨wB, h⟩ : ∃ z, z = wr := ⟨_, rfl⟩
          subst h
          go_upto_region 22 with fail
          go_loopg [6] 512 (fun kx v wr => ∃ p' : Nat, p' ≤ n ∧ padN p' ≤ kx ∧ v = .int .i64 p' ∧ Hid (Nw wB wr ∧ zrF b (padN p) p = zrF b (padN p') p'))
          case atStart => exact ⟨p, hpn, by have := padN_lt p; omega, rfl, Fr.refl _ _, rfl⟩
          case round =>
            obtain ⟨p', hp', hkx2, rfl, HJ⟩ := hrel
            obtain ⟨hNj, hZ⟩ := HJ.out
            have hrem := rem512 p'
            by_cases hz : p' % 512 = 0
            · rw [padN_zero hz, zrF] at hZ
              rw [hz] at hrem
              have hrem2 : (p' : Int) % 512 = 0 := by omega
              have hrr := HRR.out
              rw [hZ] at hrr
              simp only at hrr
              rw [if_neg (by simp)] at hrr
              have HQ := tHid (HOk.out wr acc p' g m' c' hrr (HNr.out.trans hNj) (HOw.out.nw hNj) HGe.out)
              clear HBad HOk HCB HJ hNj hZ hrr HRR HOw
              go_wp2_with fail
              first | exact HQ.out | (go_ret; exact HQ.out)
            · have hps := padN_succ hz
              rw [hps, zrF] at hZ
              obtain ⟨R, hR⟩ : ∃ R, p' % 512 = R := ⟨_, rfl⟩
              rw [hR] at hrem hz
              have hrem2 : (p' : Int) % 512 = (R : Int) := by omega
              have hRz : ¬ ((R : Int) = 0) := by omega
              by_cases hpe : p' = n
              · rw [if_pos (by rw [HBN.out]; omega)] at hZ
                have hrr := HRR.out
                rw [hZ] at hrr
                simp only at hrr
                rw [if_pos (by simp)] at hrr
                have HQ := tHid (HBad.out wr 4 hrr (HNr.out.trans hNj))
                subst hpe
                clear HBad HOk HCB HJ hNj hZ hrr HRR HOw hR
                go_wp2_with fail
                first | exact HQ.out | (go_ret; exact HQ.out)
              · rw [if_neg (by rw [HBN.out]; omega)] at hZ
                have hpb : p' < b.length := by rw [HBN.out]; omega
                obtain ⟨gb, ob, rfl, hcell⟩ := HCB.out wr (HNr.out.trans hNj) p' hpb
                have hne : ¬ ((p' : Int) = (n : Int)) := by omega
                have hneb : ((p' : Int) == (n : Int)) = false := by rw [beq_eq_false_iff_ne]; exact hne
                have hpi : (p' : Int) < (n : Int) := by omega
                rw [List.getElem?_eq_getElem hpb] at hZ
                by_cases hx : b[p'] = 0#8
                · rw [if_pos (by rw [hx])] at hZ
                  rw [hx] at hcell
                  simp only [BitVec.toNat_ofNat, Nat.zero_mod, Int.natCast_zero] at hcell
                  have HNX : Hid (Nw wB wr ∧ zrF b (padN p) p = zrF b (padN (p' + 1)) (p' + 1)) := ⟨hNj, hZ⟩
                  have HPD : Hid (padN (p' + 1) < padN p') := by show _ < _; omega
                  clear HBad HOk HCB HJ hNj hZ HRR HOw hR hps hx
                  go_wp2_with fail
                  go_roundg (padN (p' + 1))
                  case measure => have := HPD.out; omega
                  case rel => exact ⟨p' + 1, by omega, Nat.le_refl _, by first | rfl | (congr 1), HNX⟩
                · rw [if_neg (fun h => by injection h with h; exact hx h)] at hZ
                  have hrr := HRR.out
                  rw [hZ] at hrr
                  simp only at hrr
                  rw [if_pos (by simp)] at hrr
                  have hxi := by_ne hx
                  have hxb : (((b[p']'hpb).toNat : Int) != 0) = true := by rw [bne, beq_eq_false_iff_ne.2 hxi]; rfl
                  have HQ := tHid (HBad.out wr 3 hrr (HNr.out.trans hNj))
                  clear HBad HOk HCB HJ hNj hZ hrr HRR HOw hR hps hx
                  generalize (b[p']'hpb).toNat = y at *
                  go_wp2_with fail
                  first | exact HQ.out | (go_ret; exact HQ.out)
  · have hrs : rsT b = ([], 0, e1) := by unfold rsT; simp only [hr1]; rw [if_pos he1]
    have hrd := HRD.out
    rw [hrs] at hrd
    simp only at hrd
    rw [if_pos he1] at hrd
    have he1i : ¬ ((e1 : Int) = 0) := by omega
    have HQ : Hid (∀ V, Nw w V → Q (.returned (.tuple #[.slice none 0 0, .int .i64 0, .int .i64 (e1 : Int)])) V) := fun V hV => HBad.out V e1 hrd hV
    clear HNum HOk HCB HLE HLe2 hC1 hr1 hrs hrd HRD HBad
    go_enter Tryd.func10, Tryd.ntmps10
    go_wp2_with (first
      | (go_at_call 30; with_reducible refine HC1.out.mono ?_; rintro e w1 ⟨q, rfl, H1⟩))
    first | exact HQ.out _ H1.out.1 | (go_ret; exact HQ.out _ H1.out.1)
end Go.Proofs.YtffhpoilifgcdaaDoor

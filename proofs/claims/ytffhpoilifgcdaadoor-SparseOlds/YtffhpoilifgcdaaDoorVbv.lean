import Derived.Test.YtffhpoilifgcdaaDoorVbu
namespace Go.Proofs.YtffhpoilifgcdaaDoor
open Go.RowKit
set_option linter.unusedVariables false
/-! ### The document's number and Read -/
def RnA (w : World) (P : Nat) (r : Nat × Nat × Nat) (e : Ending) (V : World) : Prop := ∃ q : Nat, e = .returned (.tuple #[.int .i64 (r.1 : Int), .int .i64 (q : Int), .int .i64 (r.2.2 : Int)]) ∧ Hid (Nw w V ∧ (q = P + r.2.1 ∨ r.2.2 ≠ 0))
def badF (N I y : Nat) : Prop := y < 48 ∨ 57 < y ∨ (0 < I ∧ N = 0)
instance (N I y : Nat) : Decidable (badF N I y) := by unfold badF; infer_instance
set_option maxHeartbeats 16000000 in
set_option maxRecDepth 100000 in
theorem rnumber15_any {X : Nat → Prop} (w : World) (a : Option Addr) (n c P : Nat) (b : List By) (hb : Sl X (.slice a n c) b w) (hn : n ≤ 140737488351232) (hP : P ≤ n) :
    Calls Tryd.prog 30 #[.slice a n c, .int .i64 P] w (RnA w P (nr 0 0 (b.drop P))) := by
  obtain ⟨Q, hQ⟩ : ∃ Q : Ending → World → Prop, Q = RnA w P (nr 0 0 (b.drop P)) := ⟨_, rfl⟩
  rw [← hQ]
  obtain ⟨hbn, k1, k2⟩ := slx_len hb
  have HBad : Hid (∀ V (e q : Nat), e ≠ 0 → Nw w V → nr 0 0 (b.drop P) = (0, 0, e) → Q (.returned (.tuple #[.int .i64 0, .int .i64 (q : Int), .int .i64 (e : Int)])) V) := fun V e q h0 hV he => by
    rw [hQ, he]
    exact ⟨q, rfl, hV, .inr h0⟩
  have HOk : Hid (∀ V N I, Nw w V → nr 0 0 (b.drop P) = (N, I + 1, 0) → Q (.returned (.tuple #[.int .i64 (N : Int), .int .i64 ((P + (I + 1) : Nat) : Int), .int .i64 0])) V) := fun V N I hV he => by
    rw [hQ, he]
    exact ⟨P + (I + 1), rfl, hV, .inl rfl⟩
  have HCB : Hid (∀ V, Nw w V → ∀ i (h : i < b.length), ∃ g o, a = some ⟨g, o, none⟩ ∧ V.cell? ⟨g, o + i, none⟩ = some (.int .u8 b[i].toNat)) := fun V hV i h => slx_at (hb.nw hV) i h
  have HBN := tHid hbn
  clear hQ hb hbn
  go_enter Tryd.func30, Tryd.ntmps30
  go_upto_region 2 with fail
  go_loopg [1, 7] n (fun kx at_ nn wr => ∃ (I N A : Nat), A = P + I ∧ A ≤ n ∧ n - A ≤ kx ∧ N ≤ 9223372036854775807 ∧ at_ = .int .i64 A ∧ nn = .int .i64 N ∧ Hid (Nw w wr ∧ nr 0 0 (b.drop P) = nr N I (b.drop (P + I)) ∧ (0 < I → (N = 0 ↔ b[P]? = some 48#8)) ∧ (I = 0 → N = 0)))
  case atStart => exact ⟨0, 0, P, rfl, hP, by omega, by omega, rfl, rfl, Fr.refl _ _, rfl, (fun h => by omega), fun _ => rfl⟩
  case round =>
    obtain ⟨I, N, A, hA, hAn, hkx, hN, rfl, rfl, HI⟩ := hrel
    obtain ⟨hNw, hnr, hz0, hI0N⟩ := HI.out
    have HA := tHid hA
    by_cases hlt : A < n
    · have hltb : P + I < b.length := by have := HBN.out; omega
      have hltP : P < b.length := by omega
      obtain ⟨g, o, rfl, hcell⟩ := HCB.out wr hNw (P + I) hltb
      obtain ⟨g2, o2, e, hcP⟩ := HCB.out wr hNw P hltP
      injection e with e
      injection e with e2 e3
      subst e2 e3
      rw [List.drop_eq_getElem_cons hltb] at hnr
      have hy8 := (b[P + I]'hltb).isLt
      have hxe : ∀ z : Nat, z < 256 → (b[P + I]'hltb).toNat = z → b[P + I]'hltb = BitVec.ofNat 8 z := fun z hz h => BitVec.eq_of_toNat_eq (by rw [h, BitVec.toNat_ofNat]; omega)
      have hPz : (b[P]? = some 48#8) ↔ (b[P]'hltP).toNat = 48 := by
        rw [List.getElem?_eq_getElem hltP]
        constructor
        · intro h; injection h with h; rw [h]; rfl
        · intro h; congr 1; exact BitVec.eq_of_toNat_eq (by rw [h]; rfl)
      have hPI : I = 0 → (b[P]'hltP).toNat = (b[P + I]'hltb).toNat := fun h => by subst h; rfl
      obtain ⟨y, hy⟩ : ∃ y, (b[P + I]'hltb).toNat = y := ⟨_, rfl⟩
      obtain ⟨yP, hyP⟩ : ∃ yP, (b[P]'hltP).toNat = yP := ⟨_, rfl⟩
      rw [hyP] at hcP hPz
      rw [hyP, hy] at hPI
      rw [hPz] at hz0
      rw [hy] at hcell hy8
      rw [← hA] at hcell
      have HLF : Hid (y = 10 → 0 < I → nr 0 0 (b.drop P) = (N, I + 1, 0)) := fun h1 h2 => by
        rw [hnr, hxe 10 (by omega) (by rw [hy, h1])]; exact nr_lf _ _ _ h2
      have HBB : Hid (¬ (y = 10 ∧ 0 < I) → badD N I y → nr 0 0 (b.drop P) = (0, 0, 3)) := fun h1 h2 => by
        rw [hnr]
        exact nr_bad _ _ _ _ (fun h => h1 ⟨by rw [← hy, h.1]; rfl, h.2⟩) (by rw [hy]; exact h2)
      have HGO : Hid (¬ (y = 10 ∧ 0 < I) → ¬ badD N I y → nr 0 0 (b.drop P) = nr (N * 10 + (y - 48)) (I + 1) (b.drop (P + (I + 1)))) := fun h1 h2 => by
        rw [hnr, nr_go _ _ _ _ (fun h => h1 ⟨by rw [← hy, h.1]; rfl, h.2⟩) (by rw [hy]; exact h2), hy]
        rfl
      have HPz := tHid hPz
      have HZ0 := tHid (And.intro hz0 hPI)
      have HI0N := tHid hI0N
      have HN := tHid hNw
      clear HI hnr hxe hy hNw hz0 hPI hyP hPz hI0N hA
      have hAl : (A : Int) < (n : Int) := by omega
      by_cases h10 : y = 10
      · subst h10
        by_cases hI0 : 0 < I
        · have HQ := tHid (HOk.out wr N I HN.out (HLF.out rfl hI0))
          have hne : ¬ ((A : Int) = (P : Int)) := by have := HA.out; omega
          have hne2 : ((A : Int) == (P : Int)) = false := by rw [beq_eq_false_iff_ne]; exact hne
          obtain ⟨A1, hA1⟩ : ∃ A1, P + (I + 1) = A1 := ⟨_, rfl⟩
          rw [hA1] at HQ
          have j1 : (A : Int) + 1 = (A1 : Int) := by have := HA.out; omega
          clear HBad HOk HCB HLF HBB HGO HN HA hA1 HPz HZ0
          go_wp2_with fail
          first | exact HQ.out | (go_ret; exact HQ.out)
        · have HQ := tHid (HBad.out wr 3 A (by omega) HN.out (HBB.out (fun h => hI0 h.2) (.inl (by omega))))
          have hAP : A = P := by have := HA.out; omega
          clear HBad HOk HCB HLF HBB HGO HN HA HPz HZ0
          subst hAP
          go_wp2_with fail
          first | exact HQ.out | (go_ret; exact HQ.out)
      · have h10i : ¬ ((y : Int) = 10) := by omega
        have h10b : ((y : Int) == 10) = false := by rw [beq_eq_false_iff_ne]; exact h10i
        have hnB : ¬ (y = 10 ∧ 0 < I) := fun h => h10 h.1
        obtain ⟨C, hC⟩ : ∃ C, decide (badF N I y) = C := ⟨_, rfl⟩
        have HC := tHid hC
        have HNB := tHid hnB
        clear hC hnB
        go_upto_region 8 with fail
        go_cut [52] from 29 to 52 (fun q wx => q = .bool C ∧ wr = wx)
        case first =>
          have hCt : badF N I y → C = true := fun h => by rw [← HC.out]; exact decide_eq_true h
          have hCf : ¬ badF N I y → C = false := fun h => by rw [← HC.out]; exact decide_eq_false h
          obtain ⟨hz0, hPI⟩ := HZ0.out
          have hA := HA.out
          clear HBad HOk HCB HLF HBB HGO HN HC HNB HA HPz HZ0
          by_cases h48 : y < 48
          · have : C = true := hCt (.inl h48)
            subst this
            have h48i : (y : Int) < 48 := by omega
            clear hCt hCf hA hz0 hPI
            go_wp2_with fail
            go_meet
            exact ⟨rfl, rfl⟩
          · have h48i : ¬ (y : Int) < 48 := by omega
            by_cases h57 : 57 < y
            · have : C = true := hCt (.inr (.inl h57))
              subst this
              have h57i : (57 : Int) < (y : Int) := by omega
              clear hCt hCf hA hz0 hPI
              go_wp2_with fail
              go_meet
              exact ⟨rfl, rfl⟩
            · have h57i : ¬ (57 : Int) < (y : Int) := by omega
              by_cases hI0 : 0 < I
              · have hAPi : (P : Int) < (A : Int) := by omega
                by_cases hN0 : N = 0
                · have : C = true := hCt (.inr (.inr ⟨hI0, hN0⟩))
                  subst this
                  have hyP : yP = 48 := (hz0 hI0).1 hN0
                  subst hyP
                  have hPn : (P : Int) < (n : Int) := by omega
                  clear hCt hCf hA hz0 hPI hN0
                  go_wp2_with fail
                  go_meet
                  exact ⟨rfl, rfl⟩
                · have : C = false := hCf (fun h => by rcases h with h | h | h; exact h48 h; exact h57 h; exact hN0 h.2)
                  subst this
                  have hyP : ((yP : Int) == 48) = false := by rw [beq_eq_false_iff_ne]; intro h; exact hN0 ((hz0 hI0).2 (by omega))
                  have hPn : (P : Int) < (n : Int) := by omega
                  clear hCt hCf hA hz0 hPI
                  go_wp2_with fail
                  go_meet
                  exact ⟨rfl, rfl⟩
              · have : C = false := hCf (fun h => by rcases h with h | h | h; exact h48 h; exact h57 h; exact hI0 h.1)
                subst this
                have hAPi : ¬ (P : Int) < (A : Int) := by omega
                clear hCt hCf hA hz0 hPI
                go_wp2_with fail
                go_meet
                exact ⟨rfl, rfl⟩
        case rest =>
        obtain ⟨rfl, hwc⟩ := hcut
        subst hwc
        have hCC := HC.out
        cases C with
        | true =>
          have hbF := of_decide_eq_true hCC
          have HQ := tHid (HBad.out wr 3 A (by omega) HN.out (HBB.out HNB.out (by rcases hbF with h | h | h; exact .inl h; exact .inr (.inl h); exact .inr (.inr (.inl h)))))
          clear HBad HOk HCB HLF HBB HGO HN HC HNB hCC hbF HPz HZ0
          go_wp2_with fail
          first | exact HQ.out | (go_ret; exact HQ.out)
        | false =>
          have hnF := of_decide_eq_false hCC
          have h48 : 48 ≤ y := Nat.le_of_not_lt (fun h => hnF (.inl h))
          have h57 : y ≤ 57 := Nat.le_of_not_lt (fun h => hnF (.inr (.inl h)))
          have hz : ¬ (0 < I ∧ N = 0) := fun h => hnF (.inr (.inr h))
          obtain ⟨dn, hdn⟩ : ∃ dn, y - 48 = dn := ⟨_, rfl⟩
          have hdi : (y : Int) - 48 = (dn : Int) := by omega
          have hd9 : dn ≤ 9 := by omega
          have htd := tdiv10 dn hd9
          obtain ⟨qn, hqn⟩ : ∃ qn, (9223372036854775807 - dn) / 10 = qn := ⟨_, rfl⟩
          rw [hqn] at htd
          have hq1 : ((9223372036854775807 : Int) - (dn : Int)) / 10 = (qn : Int) := by omega
          by_cases hov : qn < N
          · have HQ := tHid (HBad.out wr 3 A (by omega) HN.out (HBB.out HNB.out (.inr (.inr (.inr (by rw [hdn, hqn]; exact hov))))))
            have hovi : (qn : Int) < (N : Int) := by omega
            clear HBad HOk HCB HLF HBB HGO HN HC HNB hCC hnF hz hdn hqn HPz HZ0
            go_wp2_with fail
            first | exact HQ.out | (go_ret; exact HQ.out)
          · have hnb : ¬ badD N I y := fun h => by
              unfold badD at h
              rw [hdn, hqn] at h
              rcases h with h | h | h | h
              · omega
              · omega
              · exact hz h
              · exact hov h
            have hg := HGO.out HNB.out hnb
            rw [hdn] at hg
            have hovi : ¬ (qn : Int) < (N : Int) := by omega
            have hbound : N * 10 + dn ≤ 9223372036854775807 := by
              have h1 : N ≤ (9223372036854775807 - dn) / 10 := by omega
              rw [Nat.le_div_iff_mul_le (by omega)] at h1
              omega
            have hzz : 0 < I + 1 → (N * 10 + dn = 0 ↔ b[P]? = some 48#8) := fun _ => by
              rw [HPz.out]
              obtain ⟨hz0, hPI⟩ := HZ0.out
              by_cases hI0 : I = 0
              · have h1 := hPI hI0
                have h3 := HI0N.out hI0
                constructor
                · intro h; omega
                · intro h; omega
              · have hNz : N ≠ 0 := fun h => hz ⟨by omega, h⟩
                have h2 := hz0 (by omega)
                constructor
                · intro h; omega
                · intro h; exact absurd (h2.2 h) hNz
            obtain ⟨N1, hN1⟩ : ∃ N1, N * 10 = N1 := ⟨_, rfl⟩
            obtain ⟨N2, hN2⟩ : ∃ N2, N1 + dn = N2 := ⟨_, rfl⟩
            rw [hN1, hN2] at hg hbound hzz
            have j1 : (N : Int) * 10 = (N1 : Int) := by omega
            have j2 : (N1 : Int) + (dn : Int) = (N2 : Int) := by omega
            have j3 : N1 ≤ 9223372036854775807 := by omega
            have HNX : Hid (Nw w wr ∧ nr 0 0 (b.drop P) = nr N2 (I + 1) (b.drop (P + (I + 1))) ∧ (0 < I + 1 → (N2 = 0 ↔ b[P]? = some 48#8)) ∧ (I + 1 = 0 → N2 = 0)) := ⟨HN.out, hg, hzz, fun h => by omega⟩
            have HA1 : Hid (A + 1 = P + (I + 1)) := by show _ = _; have := HA.out; omega
            clear HBad HOk HCB HLF HBB HGO HN HC HNB hCC hnF hz hnb hg hdn hqn hN1 hN2 HPz HZ0 hzz HA
            go_wp2_with fail
            go_roundg (n - (A + 1))
            case measure => omega
            case rel => exact ⟨I + 1, N2, A + 1, HA1.out, by omega, by omega, by omega, by first | rfl | (congr 1), rfl, HNX⟩
    · have HQ := tHid (HBad.out wr 4 A (by omega) hNw (by rw [hnr, List.drop_eq_nil_of_le (by have := HBN.out; omega)]; rfl))
      obtain rfl : n = A := by omega
      clear HBad HOk HCB HI hNw hnr HA hA hz0 hI0N
      go_wp2_with fail
      first | exact HQ.out | (go_ret; exact HQ.out)
end Go.Proofs.YtffhpoilifgcdaaDoor

namespace Go.Proofs.YtffhpoilifgcdaaDoor
open Go.RowKit
set_option linter.unusedVariables false
structure RrI (w : World) (n : Nat) (b : List By) (cnt I E p g m c : Nat) (R : List (Nat × Nat) × Nat × Nat) (V : World) : Prop where
  nw : Nw w V
  pn : p ≤ n
  ge : w.heap.size ≤ g
  ls : ∃ acc, OwR RG g (.slice (some ⟨g, 0, none⟩) m c) (rgL acc) V ∧ acc.length = I ∧ R = rdA b (cnt - I) E p acc
theorem one1_e1 (b : List By) (e p n1 q1 e1 : Nat) (h1 : nr 0 0 (b.drop p) = (n1, q1, e1)) (he : e1 ≠ 0) : one1 b e p = ((0, 0), 0, e1) := by
  unfold one1; simp only [h1]; rw [if_pos he]
theorem one1_e2 (b : List By) (e p n1 q1 n2 q2 e2 : Nat) (h1 : nr 0 0 (b.drop p) = (n1, q1, 0)) (h2 : nr 0 0 (b.drop (p + q1)) = (n2, q2, e2)) (he : e2 ≠ 0) : one1 b e p = ((0, 0), 0, e2) := by
  unfold one1; simp only [h1, h2]; rw [if_neg (by simp), if_pos he]
theorem one1_e3 (b : List By) (e p n1 q1 n2 q2 : Nat) (h1 : nr 0 0 (b.drop p) = (n1, q1, 0)) (h2 : nr 0 0 (b.drop (p + q1)) = (n2, q2, 0)) (he : n1 < e ∨ 9223372036854775807 - n1 < n2) : one1 b e p = ((0, 0), 0, 3) := by
  unfold one1; simp only [h1, h2]; rw [if_neg (by simp), if_neg (by simp), if_pos he]
theorem one1_e4 (b : List By) (e p n1 q1 n2 q2 : Nat) (h1 : nr 0 0 (b.drop p) = (n1, q1, 0)) (h2 : nr 0 0 (b.drop (p + q1)) = (n2, q2, 0)) (he : ¬ (n1 < e ∨ 9223372036854775807 - n1 < n2)) : one1 b e p = ((n1, n1 + n2), p + q1 + q2, 0) := by
  unfold one1; simp only [h1, h2]; rw [if_neg (by simp), if_neg (by simp), if_neg he]
set_option maxHeartbeats 16000000 in
set_option maxRecDepth 100000 in
theorem rread_any15 {X : Nat → Prop} (w : World) (a : Option Addr) (n c : Nat) (b : List By) (hb : Sl X (.slice a n c) b w) (hn : n ≤ 140737488351232) :
    Calls Tryd.prog 10 #[.slice a n c] w (RdA w b) := by
  obtain ⟨Q, hQ⟩ : ∃ Q : Ending → World → Prop, Q = RdA w b := ⟨_, rfl⟩
  rw [← hQ]
  obtain ⟨hbn, k1, k2⟩ := slx_len hb
  have hrd := rdT_rs b
  have HBad : Hid (∀ V (e : Nat), rdT b = ([], 0, e) → Nw w V → Q (.returned (.tuple #[.slice none 0 0, .int .i64 0, .int .i64 (e : Int)])) V) := fun V e h1 h2 => by
    rw [hQ]
    unfold RdA
    rw [h1]
    exact ⟨none, 0, 0, rfl, h2, none, ⟨rfl, rfl⟩, fun g h => by cases h⟩
  have HOk : Hid (∀ V L p g m c, rdT b = (L, p, 0) → Nw w V → OwR RG g (.slice (some ⟨g, 0, none⟩) m c) (rgL L) V → w.heap.size ≤ g → Q (.returned (.tuple #[.slice (some ⟨g, 0, none⟩) m c, .int .i64 (p : Int), .int .i64 0])) V) := fun V L p g m c h1 h2 h3 h4 => by
    rw [hQ]
    unfold RdA
    rw [h1]
    exact ⟨_, m, c, rfl, h2, some g, h3, fun g' h => by injection h with h; omega⟩
  have HNum : Hid (∀ V p, Nw w V → p ≤ n → Calls Tryd.prog 30 #[.slice a n c, .int .i64 (p : Int)] V fun e V' => ∃ q : Nat, e = .returned (.tuple #[.int .i64 ((nr 0 0 (b.drop p)).1 : Int), .int .i64 (q : Int), .int .i64 ((nr 0 0 (b.drop p)).2.2 : Int)]) ∧ Hid (Nw V V' ∧ (q = p + (nr 0 0 (b.drop p)).2.1 ∨ (nr 0 0 (b.drop p)).2.2 ≠ 0))) := fun V p hV hp => rnumber15_any V a n c p b (hb.nw hV) hn hp
  have HCB : Hid (∀ V, Nw w V → ∀ i (h : i < b.length), ∃ g o, a = some ⟨g, o, none⟩ ∧ V.cell? ⟨g, o + i, none⟩ = some (.int .u8 b[i].toNat)) := fun V hV i h => slx_at (hb.nw hV) i h
  have HLE : Hid ((rsT b).2.2 = 0 → (rsT b).2.1 ≤ n) := fun h => by have := rsT_bound b h; omega
  have HLe2 : Hid (∀ p m k, nr 0 0 (b.drop p) = (m, k, 0) → p ≤ n → p + k ≤ n ∧ m ≤ 9223372036854775807) := fun p m k h1 h2 => by
    have := num_inv _ _ _ h1
    rw [List.length_drop, hbn] at this
    exact ⟨by omega, this.2.2.2⟩
  have hC1 := HNum.out w 0 (Fr.refl _ _) (by omega)
  rw [List.drop_zero] at hC1
  have HBN := tHid hbn
  have HRD := tHid hrd
  clear hQ hb hbn hrd
  cases hr1 : nr 0 0 b with
  | mk cnt r1' =>
  obtain ⟨q1, e1⟩ := r1'
  rw [hr1] at hC1
  simp only [Nat.zero_add] at hC1
  have HC1 : Hid (Calls Tryd.prog 30 #[.slice a n c, .int .i64 0] w fun e V' => ∃ q : Nat, e = .returned (.tuple #[.int .i64 (cnt : Int), .int .i64 (q : Int), .int .i64 (e1 : Int)]) ∧ Hid (Nw w V' ∧ (q = q1 ∨ e1 ≠ 0))) := hC1
  by_cases he1 : e1 = 0
  · subst he1
    obtain ⟨hq1n, hcm⟩ := HLe2.out 0 cnt q1 (by rw [List.drop_zero]; exact hr1) (by omega)
    rw [Nat.zero_add] at hq1n
    by_cases hbig : 65536 < cnt
    · have hrs : rsT b = ([], 0, 2) := by unfold rsT; simp only [hr1]; rw [if_neg (by simp), if_pos hbig]
      have hrd := HRD.out
      rw [hrs] at hrd
      simp only at hrd
      rw [if_pos (by simp)] at hrd
      have hbi : (65536 : Int) < (cnt : Int) := by omega
      have HQ : Hid (∀ V, Nw w V → Q (.returned (.tuple #[.slice none 0 0, .int .i64 0, .int .i64 2])) V) := fun V hV => HBad.out V 2 hrd hV
      clear HNum HOk HCB HLE HLe2 hC1 hr1 hrs hrd HRD HBad
      go_enter Tryd.func10, Tryd.ntmps10
      go_wp2_with (first
        | (go_at_call 30; with_reducible refine HC1.out.mono ?_; rintro e w1 ⟨q, rfl, H1⟩))
      first | exact HQ.out _ H1.out.1 | (go_ret; exact HQ.out _ H1.out.1)
    · have hrs : rsT b = rdA b cnt 0 q1 [] := by unfold rsT; simp only [hr1]; rw [if_neg (by simp), if_neg hbig]
      have hbi : ¬ (65536 : Int) < (cnt : Int) := by omega
      have HRS := tHid hrs
      have HC2 : Hid (Calls Tryd.prog 30 #[.slice a n c, .int .i64 0] w fun e V' => e = .returned (.tuple #[.int .i64 (cnt : Int), .int .i64 (q1 : Int), .int .i64 0]) ∧ Hid (Nw w V')) := HC1.out.mono (fun e V' ⟨q, h1, h2⟩ => by
        rcases h2.out.2 with h | h
        · rw [h] at h1; exact ⟨h1, h2.out.1⟩
        · exact absurd rfl h)
      have HRbad : Hid (∀ V r (e : Nat), rsT b = (r, 0, e) → e ≠ 0 → Nw w V → Q (.returned (.tuple #[.slice none 0 0, .int .i64 0, .int .i64 (e : Int)])) V) := fun V r e h1 h2 hV => HBad.out V e (by rw [HRD.out, h1]; simp only; rw [if_pos h2]) hV
      clear hr1 hrs hC1 HC1
      go_enter Tryd.func10, Tryd.ntmps10
      go_upto_region 6 with (first
        | (go_at_call 30; with_reducible refine HC2.out.mono ?_; rintro e w1 ⟨rfl, H1⟩))
      go_upto_region 9 with fail
      have HI0 : Hid (RrI w n b cnt 0 0 q1 w1.heap.size 0 0 (rsT b) (w1.alloc (.cells #[] 51))) := ⟨H1.out.alloc _, hq1n, H1.out.size, [], OwR.empty (R := RG) w1, rfl, HRS.out⟩
      go_loopg [6, 8, 9, 10] cnt (fun kx p v e i wr => ∃ (I E p' g m' c' : Nat), I ≤ cnt ∧ cnt - I ≤ kx ∧ E ≤ 9223372036854775807 ∧ p = .int .i64 p' ∧ v = .slice (some ⟨g, 0, none⟩) m' c' ∧ e = .int .i64 E ∧ i = .int .i64 I ∧ Hid (RrI w n b cnt I E p' g m' c' (rsT b) wr))
      case atStart => exact ⟨0, 0, q1, w1.heap.size, 0, 0, by omega, by omega, by omega, rfl, rfl, rfl, rfl, HI0⟩
      case round =>
        obtain ⟨I, E, p, g, m', c', hI, hkx, hE, rfl, rfl, rfl, rfl, HI⟩ := hrel
        obtain ⟨hNw, hpn, hge, acc, hO, hal, hR⟩ := HI.out
        by_cases hlt : I < cnt
        · have hIi : (I : Int) < (cnt : Int) := by omega
          have hpb : p ≤ b.length := by rw [HBN.out]; exact hpn
          rw [show cnt - I = (cnt - (I + 1)) + 1 by omega, rdA] at hR
          have hCa := HNum.out wr p hNw hpn
          cases hra : nr 0 0 (b.drop p) with
          | mk n1 ra' =>
          obtain ⟨qa, ea⟩ := ra'
          rw [hra] at hCa
          simp only at hCa
          by_cases hea : ea = 0
          · subst hea
            obtain ⟨hle1, hm1⟩ := HLe2.out p n1 qa hra hpn
            obtain ⟨pa, hpa⟩ : ∃ pa, p + qa = pa := ⟨_, rfl⟩
            rw [hpa] at hle1 hCa
            have HCa : Hid (Calls Tryd.prog 30 #[.slice a n c, .int .i64 (p : Int)] wr fun e V' => e = .returned (.tuple #[.int .i64 (n1 : Int), .int .i64 (pa : Int), .int .i64 0]) ∧ Hid (Nw wr V')) := hCa.mono (fun e V' ⟨q, h1, h2⟩ => by
              rcases h2.out.2 with h | h
              · rw [h] at h1; exact ⟨h1, h2.out.1⟩
              · exact absurd rfl h)
            cases hrb : nr 0 0 (b.drop pa) with
            | mk n2 rb' =>
            obtain ⟨qb, eb⟩ := rb'
            have HCb0 : Hid (∀ V, Nw wr V → Calls Tryd.prog 30 #[.slice a n c, .int .i64 (pa : Int)] V fun e V' => ∃ q : Nat, e = .returned (.tuple #[.int .i64 (n2 : Int), .int .i64 (q : Int), .int .i64 (eb : Int)]) ∧ Hid (Nw V V' ∧ (q = pa + qb ∨ eb ≠ 0))) := fun V hV => by
              have := HNum.out V pa (hNw.trans hV) hle1
              rw [hrb] at this
              exact this
            have hrb' : nr 0 0 (b.drop (p + qa)) = (n2, qb, eb) := by rw [hpa]; exact hrb
            by_cases heb : eb = 0
            · subst heb
              obtain ⟨hle2, hm2⟩ := HLe2.out pa n2 qb hrb hle1
              obtain ⟨pb, hpb2⟩ : ∃ pb, pa + qb = pb := ⟨_, rfl⟩
              rw [hpb2] at hle2 HCb0
              have HCb : Hid (∀ V, Nw wr V → Calls Tryd.prog 30 #[.slice a n c, .int .i64 (pa : Int)] V fun e V' => e = .returned (.tuple #[.int .i64 (n2 : Int), .int .i64 (pb : Int), .int .i64 0]) ∧ Hid (Nw V V')) := fun V hV => (HCb0.out V hV).mono (fun e V' ⟨q, h1, h2⟩ => by
                rcases h2.out.2 with h | h
                · rw [h] at h1; exact ⟨h1, h2.out.1⟩
                · exact absurd rfl h)
              by_cases hbad : n1 < E ∨ 9223372036854775807 - n1 < n2
              · have ho := one1_e3 b E p n1 qa n2 qb hra hrb' hbad
                rw [ho, if_pos (by simp)] at hR
                have HQ : Hid (∀ V, Nw wr V → Q (.returned (.tuple #[.slice none 0 0, .int .i64 0, .int .i64 3])) V) := fun V hV => HRbad.out V _ 3 hR (by omega) (hNw.trans hV)
                clear HNum HOk HCB HLE HLe2 HBad HRbad HI hNw hO hR ho hra hrb hrb' HCb0 hCa HI0 HRD HRS HC2 hpa hpb2
                by_cases hF : n1 < E
                · have hFi : (n1 : Int) < (E : Int) := by omega
                  clear hbad
                  go_wp2_with (first
                    | (go_at_call 30; with_reducible refine HCa.out.mono ?_; rintro e w2 ⟨rfl, H2⟩)
                    | (go_at_call 30; with_reducible refine (HCb.out _ H2.out).mono ?_; rintro e w3 ⟨rfl, H3⟩))
                  first | exact HQ.out _ (H2.out.trans H3.out) | (go_ret; exact HQ.out _ (H2.out.trans H3.out))
                · have hFi : ¬ (n1 : Int) < (E : Int) := by omega
                  have hov : (9223372036854775807 : Int) - (n1 : Int) < (n2 : Int) := by omega
                  clear hbad
                  go_wp2_with (first
                    | (go_at_call 30; with_reducible refine HCa.out.mono ?_; rintro e w2 ⟨rfl, H2⟩)
                    | (go_at_call 30; with_reducible refine (HCb.out _ H2.out).mono ?_; rintro e w3 ⟨rfl, H3⟩))
                  first | exact HQ.out _ (H2.out.trans H3.out) | (go_ret; exact HQ.out _ (H2.out.trans H3.out))
              · have ho := one1_e4 b E p n1 qa n2 qb hra hrb' hbad
                rw [ho, if_neg (by simp)] at hR
                simp only at hR
                rw [hpa, hpb2] at hR
                have hFi : ¬ (n1 : Int) < (E : Int) := by omega
                have hov : ¬ (9223372036854775807 : Int) - (n1 : Int) < (n2 : Int) := by omega
                obtain ⟨T, hT⟩ : ∃ T, n1 + n2 = T := ⟨_, rfl⟩
                rw [hT] at hR
                have hTi : (n1 : Int) + (n2 : Int) = (T : Int) := by omega
                have hTm : T ≤ 9223372036854775807 := by omega
                have HST : Hid (∀ V, Nw wr V → ∃ g2 m2 c2 W, Hid (∀ ty, (Builtin.append_ #[22, 22] ty #[.slice (some ⟨g, 0, none⟩) m' c', .slice (some ⟨V.heap.size, 0, none⟩) 1 1]).run Tryd.prog (V.alloc (.cells #[.int .i64 (n1 : Int), .int .i64 (T : Int)] 51)) = .ok (.slice (some ⟨g2, 0, none⟩) m2 c2) W) ∧ Hid (RrI w n b cnt (I + 1) T pb g2 m2 c2 (rsT b) W)) := fun V hV => by
                  obtain ⟨g2, m2, c2, W, r1, r2, r3, r4⟩ := pushO V g m' c' (rgL acc) (hO.nw hV) (by rw [rgL_len]; omega) ((n1 : Int), (T : Int))
                  refine ⟨g2, m2, c2, W, r1, (hNw.trans hV).then r3 (fun i hi => .inr (by omega)), hle2, ?_, acc ++ [(n1, T)], by rw [rgL_snoc]; exact r2, by rw [List.length_append, List.length_singleton, hal], hR⟩
                  have h5 := (hNw.trans hV).size
                  rcases r4 with e | e <;> omega
                clear HNum HOk HCB HLE HLe2 HBad HRbad HI hNw hO hR ho hra hrb hrb' HCb0 hCa HI0 HRD HRS HC2 hpa hpb2 hT hbad
                go_upto_region 21 with (first
                  | (go_at_call 30; with_reducible refine HCa.out.mono ?_; rintro e w2 ⟨rfl, H2⟩)
                  | (go_at_call 30; with_reducible refine (HCb.out _ H2.out).mono ?_; rintro e w3 ⟨rfl, H3⟩))
                obtain ⟨g2, m2, c2, W, HA, HNX⟩ := HST.out w3 (H2.out.trans H3.out)
                clear HST HCa HCb H2 H3
                go_wp2_with (first
                  | (at_builtin; refine Lib.wpList_append_run _ rfl _ _ 22 22 rfl (.slice (some ⟨g, 0, none⟩) m' c') (.slice (some ⟨w3.heap.size, 0, none⟩) 1 1) (by first | rfl | simp [Act.eval]) (by first | rfl | simp [Act.eval]) _ _ (HA.out _) ?_))
                go_roundg (cnt - (I + 1))
                case measure => omega
                case rel => exact ⟨I + 1, T, pb, g2, m2, c2, by omega, by omega, hTm, rfl, rfl, rfl, by first | rfl | (congr 1), HNX⟩
            · have ho := one1_e2 b E p n1 qa n2 qb eb hra hrb' heb
              rw [ho, if_pos heb] at hR
              have hebi : ¬ ((eb : Int) = 0) := by omega
              have HQ : Hid (∀ V, Nw wr V → Q (.returned (.tuple #[.slice none 0 0, .int .i64 0, .int .i64 (eb : Int)])) V) := fun V hV => HRbad.out V _ eb hR heb (hNw.trans hV)
              clear HNum HOk HCB HLE HLe2 HBad HRbad HI hNw hO hR ho hra hrb hrb' hCa HI0 HRD HRS HC2 hpa
              go_wp2_with (first
                | (go_at_call 30; with_reducible refine HCa.out.mono ?_; rintro e w2 ⟨rfl, H2⟩)
                | (go_at_call 30; with_reducible refine (HCb0.out _ H2.out).mono ?_; rintro e w3 ⟨qq, rfl, H3⟩))
              first | exact HQ.out _ (H2.out.trans H3.out.1) | (go_ret; exact HQ.out _ (H2.out.trans H3.out.1))
          · have ho := one1_e1 b E p n1 qa ea hra hea
            rw [ho, if_pos hea] at hR
            have heai : ¬ ((ea : Int) = 0) := by omega
            have HQ : Hid (∀ V, Nw wr V → Q (.returned (.tuple #[.slice none 0 0, .int .i64 0, .int .i64 (ea : Int)])) V) := fun V hV => HRbad.out V _ ea hR hea (hNw.trans hV)
            have HCa := tHid hCa
            clear HNum HOk HCB HLE HLe2 HBad HRbad HI hNw hO hR ho hra hCa HI0 HRD HRS HC2
            go_wp2_with (first
              | (go_at_call 30; with_reducible refine HCa.out.mono ?_; rintro e w2 ⟨qq, rfl, H2⟩))
            first | exact HQ.out _ H2.out.1 | (go_ret; exact HQ.out _ H2.out.1)
        · have hIc : I = cnt := by omega
          rw [show cnt - I = 0 by omega, rdA] at hR
          have HRR : Hid (rdT b = if (zrF b (padN p) p).2 ≠ 0 then ([], 0, (zrF b (padN p) p).2) else (acc, (zrF b (padN p) p).1, 0)) := by
            show _ = _
            rw [HRD.out, hR]
            simp only
            rw [if_neg (by simp)]
          have HOw := tHid hO
          have HNr := tHid hNw
          have HGe := tHid hge
          subst hIc
          clear HNum HLE HLe2 HRbad HI hNw hO hR HI0 HRD HRS HC2 hge
          obtain ⟨wB, h⟩ : ∃ z, z = wr := ⟨_, rfl⟩
          subst h
          go_upto_region 22 with fail
          go_loopg [6] 512 (fun kx v wr => ∃ p' : Nat, p' ≤ n ∧ padN p' ≤ kx ∧ v = .int .i64 p' ∧ Hid (Nw wB wr ∧ zrF b (padN p) p = zrF b (padN p') p'))
          case atStart => exact ⟨p, hpn, by have := padN_lt p; omega, rfl, Fr.refl _ _, rfl⟩
          case round =>
            obtain ⟨p', hp', hkx2, rfl, HJ⟩ := hrel
            obtain ⟨hNj, hZ⟩ := HJ.out
            have hrem := rem512 p'
            by_cases hz : p' % 512 = 0
            · rw [padN_zero hz, zrF] at hZ
              rw [hz] at hrem
              have hrem2 : (p' : Int) % 512 = 0 := by omega
              have hrr := HRR.out
              rw [hZ] at hrr
              simp only at hrr
              rw [if_neg (by simp)] at hrr
              have HQ := tHid (HOk.out wr acc p' g m' c' hrr (HNr.out.trans hNj) (HOw.out.nw hNj) HGe.out)
              clear HBad HOk HCB HJ hNj hZ hrr HRR HOw
              go_wp2_with fail
              first | exact HQ.out | (go_ret; exact HQ.out)
            · have hps := padN_succ hz
              rw [hps, zrF] at hZ
              obtain ⟨R, hR⟩ : ∃ R, p' % 512 = R := ⟨_, rfl⟩
              rw [hR] at hrem hz
              have hrem2 : (p' : Int) % 512 = (R : Int) := by omega
              have hRz : ¬ ((R : Int) = 0) := by omega
              by_cases hpe : p' = n
              · rw [if_pos (by rw [HBN.out]; omega)] at hZ
                have hrr := HRR.out
                rw [hZ] at hrr
                simp only at hrr
                rw [if_pos (by simp)] at hrr
                have HQ := tHid (HBad.out wr 4 hrr (HNr.out.trans hNj))
                subst hpe
                clear HBad HOk HCB HJ hNj hZ hrr HRR HOw hR
                go_wp2_with fail
                first | exact HQ.out | (go_ret; exact HQ.out)
              · rw [if_neg (by rw [HBN.out]; omega)] at hZ
                have hpb : p' < b.length := by rw [HBN.out]; omega
                obtain ⟨gb, ob, rfl, hcell⟩ := HCB.out wr (HNr.out.trans hNj) p' hpb
                have hne : ¬ ((p' : Int) = (n : Int)) := by omega
                have hneb : ((p' : Int) == (n : Int)) = false := by rw [beq_eq_false_iff_ne]; exact hne
                have hpi : (p' : Int) < (n : Int) := by omega
                rw [List.getElem?_eq_getElem hpb] at hZ
                by_cases hx : b[p'] = 0#8
                · rw [if_pos (by rw [hx])] at hZ
                  rw [hx] at hcell
                  simp only [BitVec.toNat_ofNat, Nat.zero_mod, Int.natCast_zero] at hcell
                  have HNX : Hid (Nw wB wr ∧ zrF b (padN p) p = zrF b (padN (p' + 1)) (p' + 1)) := ⟨hNj, hZ⟩
                  have HPD : Hid (padN (p' + 1) < padN p') := by show _ < _; omega
                  clear HBad HOk HCB HJ hNj hZ HRR HOw hR hps hx
                  go_wp2_with fail
                  go_roundg (padN (p' + 1))
                  case measure => have := HPD.out; omega
                  case rel => exact ⟨p' + 1, by omega, Nat.le_refl _, by first | rfl | (congr 1), HNX⟩
                · rw [if_neg (fun h => by injection h with h; exact hx h)] at hZ
                  have hrr := HRR.out
                  rw [hZ] at hrr
                  simp only at hrr
                  rw [if_pos (by simp)] at hrr
                  have hxi := by_ne hx
                  have hxb : (((b[p']'hpb).toNat : Int) != 0) = true := by rw [bne, beq_eq_false_iff_ne.2 hxi]; rfl
                  have HQ := tHid (HBad.out wr 3 hrr (HNr.out.trans hNj))
                  clear HBad HOk HCB HJ hNj hZ hrr HRR HOw hR hps hx
                  generalize (b[p']'hpb).toNat = y at *
                  go_wp2_with fail
                  first | exact HQ.out | (go_ret; exact HQ.out)
  · have hrs : rsT b = ([], 0, e1) := by unfold rsT; simp only [hr1]; rw [if_pos he1]
    have hrd := HRD.out
    rw [hrs] at hrd
    simp only at hrd
    rw [if_pos he1] at hrd
    have he1i : ¬ ((e1 : Int) = 0) := by omega
    have HQ : Hid (∀ V, Nw w V → Q (.returned (.tuple #[.slice none 0 0, .int .i64 0, .int .i64 (e1 : Int)])) V) := fun V hV => HBad.out V e1 hrd hV
    clear HNum HOk HCB HLE HLe2 hC1 hr1 hrs hrd HRD HBad
    go_enter Tryd.func10, Tryd.ntmps10
    go_wp2_with (first
      | (go_at_call 30; with_reducible refine HC1.out.mono ?_; rintro e w1 ⟨q, rfl, H1⟩))
    first | exact HQ.out _ H1.out.1 | (go_ret; exact HQ.out _ H1.out.1)
end Go.Proofs.YtffhpoilifgcdaaDoor

namespace Go.Proofs.YtffhpoilifgcdaaDoor
open Go.RowKit
set_option linter.unusedVariables false
/-! ### SparseTexts -/
theorem copyG1 (V : World) (va : Value) (l : List Rg) (hl : SlR RG (fun _ => False) va l V) (hn : l.length ≤ 8796093022208) : ∃ g1 c1 W1, Hid (∀ ty, (Builtin.append_ #[22, 22] ty #[.slice (some ⟨V.heap.size, 0, none⟩) 0 0, va]).run Tryd.prog (V.alloc (.cells #[] 51)) = .ok (.slice (some ⟨g1, 0, none⟩) l.length c1) W1) ∧
    OwR RG g1 (.slice (some ⟨g1, 0, none⟩) l.length c1) l W1 ∧ Nw V W1 ∧ V.heap.size ≤ g1 := by
  have hN : Nw V (V.alloc (.cells #[] 51)) := (Fr.refl _ _).alloc _
  obtain ⟨v1, g1, W1, k1, k2, k3, k4⟩ := owR_app rgOk _ _ _ [] (OwR.empty (R := RG) V) va l (hl.nw hN) (by simp only [RG, List.length_nil]; omega) (by simp only [List.length_nil]; omega)
  rw [List.nil_append] at k2
  obtain ⟨xs, rfl, _⟩ := id k2
  have hs0 : ∀ o, (V.alloc o).heap.size = V.heap.size + 1 := fun o => by simp
  rw [hs0] at k4
  have h1 : V.heap.size ≤ g1 := by rcases k4 with e | e <;> omega
  exact ⟨g1, _, W1, k1, k2, hN.then k3 (fun i hi => .inr (by omega)), h1⟩
theorem ptX_len (l : List Rg) : (ptX l).length ≤ 10000000 := by
  unfold ptX
  split
  · rename_i hv
    obtain ⟨m, rfl, hch, hml⟩ := vld_m hv
    rw [natL_rgL, ptT, List.length_append, List.length_replicate]
    have h1 := bdT_len m hml (chn_all hch)
    have h2 := padN_lt (bdT m).length
    omega
  · simp
theorem ptX_nil : ptX [] = ptT [] ∧ (ptT []).length = 512 := by
  refine ⟨rfl, ?_⟩
  have h0 : (bdT []).length = 2 := by
    rw [bdT, List.length_append, lnT_len, show ([] : List (Nat × Nat)).length = 0 from rfl, dgt_small (by omega)]
    rfl
  rw [ptT, List.length_append, List.length_replicate, h0]
  rfl
theorem rdA_len (b : List By) (k e p : Nat) (acc : List (Nat × Nat)) (h : acc.length + k ≤ 65536) : (rdA b k e p acc).1.length ≤ 65536 := by
  induction k generalizing e p acc with
  | zero => rw [rdA]; exact h
  | succ k ih =>
    rw [rdA]
    split
    · simp
    · exact ih _ _ _ (by rw [List.length_append, List.length_singleton]; omega)
theorem rdT_len (b : List By) : (rdT b).1.length ≤ 65536 := by
  rw [rdT_rs]
  split
  · simp
  · split
    · simp
    · show (rsT b).1.length ≤ _
      unfold rsT
      simp only
      split
      · simp
      · split
        · simp
        · exact rdA_len b _ 0 _ [] (by simp; omega)
set_option maxHeartbeats 16000000 in
set_option maxRecDepth 100000 in
theorem texts_walk (w : World) (hEv : Ev15 w) (a2 : Option Addr) (n2 c2 : Nat) (l : List Rg) (hl : SlR RG (fun k => w.heap.size ≤ k) (.slice a2 n2 c2) l w) (hn2 : n2 ≤ 8796093022208) (a : Option Addr) (n c : Nat) (b : List By) (hb : Old w (.slice a n c) b) (hn : n ≤ 140737488351232) :
    Calls Tryd.prog 3 #[.slice a2 n2 c2, .slice a n c] w fun e w' => e = .returned (.bool true) ∧ Nw w w' := by
  obtain ⟨P, hP⟩ : ∃ P : Ending → World → Prop, P = fun e w' => e = .returned (.bool true) ∧ Nw w w' := ⟨_, rfl⟩
  rw [← hP]
  have HF : Hid (∀ V, Nw w V → P (.returned (.bool true)) V) := fun V hV => by rw [hP]; exact ⟨rfl, hV⟩
  clear hP
  obtain ⟨hbn, k1, k2⟩ := slx_len hb
  obtain ⟨hln, k3, k4⟩ := slg_len hl
  obtain ⟨N32, hN32⟩ : ∃ N32, n + 32 = N32 := ⟨_, rfl⟩
  obtain ⟨gm, cm, W1, HA1, om, nm, hgm⟩ := copyG1 w (.slice a2 n2 c2) l (hl.mono (fun _ h => h.elim)) (by omega)
  rw [hln] at HA1 om
  have HB := tHid hb
  have HL := tHid hl
  have HE : Hid (b.length = n ∧ l.length = n2 ∧ n + 32 = N32) := ⟨hbn, hln, hN32⟩
  have HOM := tHid om
  have HN1 := tHid nm
  have HGM : Hid (w.heap.size ≤ gm ∧ gm < W1.heap.size) := ⟨hgm, om.lt⟩
  have HSLl : Hid (∀ V, Nw W1 V → SlR RG (fun k => w.heap.size ≤ k) (.slice a2 n2 c2) l V) := fun V hV => hl.nw (nm.trans hV)
  have HSB : Hid (∀ V, Nw W1 V → Sl (fun k => w.heap.size ≤ k) (.slice a n c) b V) := fun V hV => hb.nw (nm.trans hV)
  have HSP : Hid (∀ X : Nat → Prop, ¬ X gm → ∀ V, Fr X W1 V → SlR RG (fun k => k ≠ gm) (.slice (some ⟨gm, 0, none⟩) n2 cm) l V) := fun X hX V hV => (om.kept hV hX).slr rgOk
  obtain ⟨E1, hE1⟩ : ∃ E1 : Int, (if vld l 9223372036854775807 then (0 : Int) else 1) = E1 := ⟨_, rfl⟩
  have HPu : Hid (∀ V, Nw W1 V → Calls Tryd.prog 6 #[.slice (some ⟨gm, 0, none⟩) n2 cm] V fun e V' => ∃ a k c, e = .returned (.tuple #[.slice a k c, .int .i64 E1]) ∧ Hid (Nw V V' ∧ NewB V (.slice a k c) (ptX l) V')) := fun V hV => by
    have := put_any V (hEv.nw (nm.trans hV)) _ _ _ l (HSP.out _ (fun h => h) V hV)
    unfold PtA at this
    rw [hE1] at this
    exact this
  have HRP : Hid (∀ V, Nw W1 V → Calls Tryd.prog 7 #[.slice a2 n2 c2] V fun e V' => ∃ a k c, e = .returned (.tuple #[.slice a k c, .int .i64 E1]) ∧ Hid (Nw V V' ∧ NewB V (.slice a k c) (ptX l) V')) := fun V hV => by
    have := rput_any V _ _ _ l (HSLl.out V hV)
    unfold PtA at this
    rw [hE1] at this
    exact this
  have HLent : Hid (∀ V, Nw W1 V → Calls Tryd.prog 8 #[.slice a n c] V fun e w' => ∃ g c1, e = .returned (.tuple #[.slice (some ⟨g, 0, none⟩) n c1, .slice (some ⟨g, 0, none⟩) N32 c1]) ∧ Hid (V.heap.size ≤ g ∧ Ow g (.slice (some ⟨g, 0, none⟩) N32 c1) (b ++ marks 32) w' ∧ Nw V w')) := fun V hV => by
    refine (lent_any V (.slice a n c) b (hb.later (nm.trans hV)) (by omega)).mono ?_
    rintro e w' ⟨g, c1, e1, e2, e3, e4⟩
    rw [hbn, hN32] at e1 e3
    exact ⟨g, c1, e1, e2, e3, e4⟩
  have HPn : Hid (∀ V, Nw w V → Calls Tryd.prog 6 #[.slice none 0 0] V fun e V' => ∃ a c, e = .returned (.tuple #[.slice a 512 c, .int .i64 0]) ∧ Hid (Nw V V')) := fun V hV => by
    have h := put_any (X := fun _ => False) V (hEv.nw hV) none 0 0 [] (.inl ⟨none, rfl, rfl⟩)
    unfold PtA at h
    refine h.mono ?_
    rintro e V' ⟨a', k', c', e1, h1⟩
    obtain ⟨q1, _, _⟩ := Mine.len h1.out.2
    rw [ptX_nil.1, ptX_nil.2] at q1
    subst q1
    exact ⟨a', c', e1, h1.out.1⟩
  have HXL := tHid (ptX_len l)
  have HRL := tHid (rdT_len b)
  clear hb hl hbn hln hN32 om nm hgm hE1 hEv
  generalize ptX l = X1 at *
  go_enter Tryd.func3, Tryd.ntmps3
  go_upto_region 5 with (first
    | (at_builtin; refine Lib.wpList_append_run _ rfl _ _ 22 22 rfl (.slice (some ⟨w.heap.size, 0, none⟩) 0 0) (.slice a2 n2 c2) (by first | rfl | simp [Act.eval]) (by first | rfl | simp [Act.eval]) _ _ (HA1.out _) ?_)
    | (go_at_call 6; with_reducible refine (HPu.out W1 (Fr.refl _ _)).mono ?_; rintro e w2 ⟨ax, kx, cx, rfl, H2⟩; have HN2 := tHid (And.left H2.out))
    | (go_at_call 7; with_reducible refine (HRP.out _ HN2.out).mono ?_; rintro e w3 ⟨ay, ky, cy, rfl, H3⟩; have HN3 := tHid (Nw.trans HN2.out H3.out.1))
    | (go_at_call 8; with_reducible refine (HLent.out _ HN3.out).mono ?_; rintro e w4 ⟨g1, c1, rfl, H4⟩; have HN4 := tHid (Nw.trans HN3.out H4.out.2.2)))
  clear HA1 HPu HRP HLent
  obtain ⟨h41, h42, h43⟩ := H4.out
  have HO1 := tHid h42
  have HG1 : Hid (w3.heap.size ≤ g1 ∧ g1 < w4.heap.size) := ⟨h41, h42.lt⟩
  have HSC : Hid (∀ V, Nw w4 V → Old V (.slice (some ⟨g1, 0, none⟩) n c1) b) := fun V hV => by
    have ho := HO1.out.nw hV
    obtain ⟨c', e, q1, q2, q3⟩ := ho.cut n (by rw [List.length_append, HE.out.1]; omega)
    injection e with _ e1 e2
    rw [List.take_left' HE.out.1] at q3
    rw [e2]
    exact q3.old
  have HRd := tHid (read_any15 w4 _ _ _ b (HSC.out w4 (Fr.refl _ _)) (by omega))
  have HRR : Hid (∀ V, Nw W1 V → Calls Tryd.prog 10 #[.slice a n c] V (RdA V b)) := fun V hV => rread_any15 V _ _ _ b (HSB.out V hV) (by omega)
  unfold RdA at HRd HRR
  clear HSC h41 h42 h43
  generalize rdT b = R at *
  obtain ⟨R1, R2, R3⟩ := R
  simp only at HRd HRR HRL
  go_upto_region 7 with (first
    | (go_at_call 9; with_reducible refine HRd.out.mono ?_; rintro e w5 ⟨ar, mr, cr, rfl, H5⟩; have HN5 := tHid (Nw.trans HN4.out H5.out.1))
    | (go_at_call 10; with_reducible refine (HRR.out _ HN5.out).mono ?_; rintro e w6 ⟨as', ms, cs, rfl, H6⟩; have HN6 := tHid (Nw.trans HN5.out H6.out.1)))
  clear HRd HRR
  obtain ⟨n2', x2⟩ := H2.out
  obtain ⟨n3, x3⟩ := H3.out
  have n4 := H4.out.2.2
  obtain ⟨n5, p5⟩ := H5.out
  obtain ⟨n6, p6⟩ := H6.out
  have HS1 : Hid (∀ V, Nw w6 V → Calls Tryd.prog 11 #[.slice ax kx cx, .slice ay ky cy] V fun e w' => e = .returned (.bool true) ∧ Hid (Nw w6 w')) := fun V hV => by
    refine (same_any V _ _ X1 X1 ((x2.old.mono (fun _ h => h.elim) : Sl (fun _ => False) _ _ _).nw ((n3.trans (n4.trans (n5.trans n6))).trans hV)) ((x3.old.mono (fun _ h => h.elim) : Sl (fun _ => False) _ _ _).nw ((n4.trans (n5.trans n6)).trans hV)) (by have := HXL.out; omega) (by have := HXL.out; omega)).mono ?_
    rintro e w' ⟨e1, e2⟩
    rw [decide_eq_true rfl] at e1
    exact ⟨e1, hV.trans e2⟩
  have HR1 : Hid (∀ V, Nw w6 V → Calls Tryd.prog 12 #[.slice (some ⟨gm, 0, none⟩) n2 cm, .slice a2 n2 c2] V fun e w' => e = .returned (.bool true) ∧ Hid (Nw w6 w')) := fun V hV => by
    refine (ranges_any V _ _ l l (HSP.out _ (fun h => h) V (HN6.out.trans hV)) (HSLl.out V (HN6.out.trans hV))).mono ?_
    rintro e w' ⟨e1, e2⟩
    rw [decide_eq_true rfl] at e1
    exact ⟨e1, hV.trans e2⟩
  have HR2 : Hid (∀ V, Nw w6 V → Calls Tryd.prog 12 #[.slice ar mr cr, .slice as' ms cs] V fun e w' => e = .returned (.bool true) ∧ Hid (Nw w6 w')) := fun V hV => by
    refine (ranges_any V _ _ (rgL R1) (rgL R1) (p5.slr.nw (n6.trans hV)) (p6.slr.nw hV)).mono ?_
    rintro e w' ⟨e1, e2⟩
    rw [decide_eq_true rfl] at e1
    exact ⟨e1, hV.trans e2⟩
  have HKp : Hid (∀ (X : Nat → Prop) V, ¬ X g1 → (∀ k, X k → w.heap.size ≤ k) → Fr X w6 V → Calls Tryd.prog 13 #[.slice (some ⟨g1, 0, none⟩) N32 c1, .slice a n c] V fun e w' => e = .returned (.bool true) ∧ Nw V w') := fun X V hX1 hX2 hV => by
    have ho := (HO1.out.nw (n5.trans n6)).kept hV hX1
    have hbb : Sl (fun _ => False) (.slice a n c) b V := ((HSB.out w6 HN6.out).kept hV hX2).mono (fun _ h => h.elim)
    have := kept_any V g1 c1 (.slice a n c) b (by rw [HE.out.1, HE.out.2.2]; exact ho) hbb (by rw [HE.out.1]; omega)
    rw [HE.out.1, HE.out.2.2] at this
    exact this
  have HK1 : Hid (∀ V, Nw w6 V → Calls Tryd.prog 13 #[.slice (some ⟨g1, 0, none⟩) N32 c1, .slice a n c] V fun e w' => e = .returned (.bool true) ∧ Hid (Nw w6 w')) := fun V hV => (HKp.out _ V (fun h => h) (fun k h => h.elim) hV).mono (fun e w' ⟨h1, h2⟩ => ⟨h1, hV.trans h2⟩)
  have HX : Hid (Nw w6 w6) := Fr.refl _ _
  clear n2' x2 n3 x3 n4 n5 p5 n6 p6
  go_upto_region 9 with (first
    | (go_at_call 11; with_reducible refine (HS1.out _ HX.out).mono ?_; rintro e wx ⟨rfl, HX⟩)
    | (go_at_call 12; with_reducible refine (HR1.out _ HX.out).mono ?_; rintro e wx ⟨rfl, HX⟩)
    | (go_at_call 12; with_reducible refine (HR2.out _ HX.out).mono ?_; rintro e wx ⟨rfl, HX⟩)
    | (go_at_call 13; with_reducible refine (HK1.out _ HX.out).mono ?_; rintro e wx ⟨rfl, HX⟩))
  clear HS1 HR1 HR2 HK1
  obtain ⟨n2', x2⟩ := H2.out
  obtain ⟨n3, x3⟩ := H3.out
  have n4 := H4.out.2.2
  obtain ⟨n5, p5⟩ := H5.out
  obtain ⟨n6, p6⟩ := H6.out
  obtain ⟨og2, r2, y2⟩ := NewB.own x2
  obtain ⟨og5, o5, r5⟩ := p5
  have l5 := o5.lt
  have s12 := HN1.out.size
  have s23 := n3.size
  have s34 := n4.size
  have s2 := n2'.size
  have s45 := n5.size
  obtain ⟨hg11, hg12⟩ := HG1.out
  obtain ⟨hgm1, hgm2⟩ := HGM.out
  have hm := y2 (fun _ => False) wx (((n3.trans (n4.trans (n5.trans n6))).trans HX.out)) (fun g h1 h2 => h2)
  have HFu := tHid (full_own hm (by have := HXL.out; omega) 3#8 3 rfl)
  have HWr : Hid (∀ V, Fr (fun k => og2 = some k) wx V → Calls Tryd.prog 15 #[.slice ar mr cr] V fun e w' => (∃ r, e = .returned r) ∧ Hid (Fr (fun k => og2 = some k ∨ og5 = some k) wx w')) := fun V hV => by
    have ho := (o5.nw (n6.trans HX.out)).kept hV (fun g hg e => by have := r2 g e; have := r5 g hg; omega)
    refine (written_any V og5 (.slice ar mr cr) (rgL R1) ho (by rw [rgL_len]; have := HRL.out; omega)).mono ?_
    rintro e w' ⟨e1, e2⟩
    exact ⟨e1, (hV.mono (fun i hi => .inl (.inl hi))).trans (e2.mono (fun i hi => .inl (.inr hi)))⟩
  have hXn : ∀ k, (og2 = some k ∨ og5 = some k) → (W1.heap.size ≤ k ∧ k < w2.heap.size) ∨ w4.heap.size ≤ k := fun k hk => by
    rcases hk with h | h
    · exact .inl (r2 k h)
    · exact .inr (r5 k h)
  have HQ : Hid (∀ wd, Fr (fun k => og2 = some k ∨ og5 = some k) wx wd → Nw w wd ∧ (∀ V, Nw wd V → Calls Tryd.prog 12 #[.slice (some ⟨gm, 0, none⟩) n2 cm, .slice a2 n2 c2] V fun e w' => e = .returned (.bool true) ∧ Hid (Nw wd w')) ∧ (∀ V, Nw wd V → Calls Tryd.prog 13 #[.slice (some ⟨g1, 0, none⟩) N32 c1, .slice a n c] V fun e w' => e = .returned (.bool true) ∧ Hid (Nw wd w'))) := fun wd hd => by
    have h6d : Fr (fun k => og2 = some k ∨ og5 = some k) w6 wd := HX.out.any.trans hd
    have h1d : Fr (fun k => og2 = some k ∨ og5 = some k) W1 wd := HN6.out.any.trans h6d
    refine ⟨HN1.out.then h1d (fun i hi => .inr (by have := hXn i hi; omega)), fun V hV => ?_, fun V hV => ?_⟩
    · refine (ranges_any V _ _ l l (HSP.out _ (fun h => by have := hXn gm h; omega) V (h1d.trans hV.any)) (((HSLl.out w6 HN6.out).kept h6d (fun k h => by have := hXn k h; omega)).nw hV)).mono ?_
      rintro e w' ⟨e1, e2⟩
      rw [decide_eq_true rfl] at e1
      exact ⟨e1, hV.trans e2⟩
    · exact (HKp.out _ V (fun h => by have := hXn g1 h; omega) (fun k h => by have := hXn k h; omega) (h6d.trans hV.any)).mono (fun e w' ⟨h1, h2⟩ => ⟨h1, hV.trans h2⟩)
  clear HXL HRL HKp HSP HSLl HSB H2 H3 H4 H5 H6 HOM HO1 HN6 HN5 HN4 HN3 HN2 HG1 HGM HN1 HB HL HX
  clear n2' x2 n3 x3 n4 n5 n6 p6 r2 y2 o5 r5 l5 s12 s23 s34 s2 s45 hg11 hg12 hgm1 hgm2 hm hXn
  go_upto_region 11 with (first
    | (go_at_call 14; with_reducible refine HFu.out.mono ?_; rintro e wa ⟨⟨r1, rfl⟩, Ha⟩)
    | (go_at_call 15; with_reducible refine (HWr.out _ Ha).mono ?_; rintro e wd ⟨⟨r2, rfl⟩, Hd⟩))
  obtain ⟨q0, q1, q2⟩ := HQ.out wd Hd.out
  have HC1 := tHid (HPn.out wd q0)
  have HR4 := tHid q1
  have HK4 := tHid q2
  have HNd := tHid q0
  clear q0 q1 q2 HQ HFu HWr Ha Hd HPn
  go_wp2_with (first
    | (go_at_call 6; with_reducible refine HC1.out.mono ?_; rintro e wy ⟨ao, co, rfl, HY⟩)
    | (go_at_call 12; with_reducible refine (HR4.out _ HY.out).mono ?_; rintro e wy ⟨rfl, HY⟩)
    | (go_at_call 13; with_reducible refine (HK4.out _ HY.out).mono ?_; rintro e wy ⟨rfl, HY⟩))
  first | exact HF.out _ (HNd.out.trans HY.out) | (go_ret; exact HF.out _ (HNd.out.trans HY.out))
end Go.Proofs.YtffhpoilifgcdaaDoor

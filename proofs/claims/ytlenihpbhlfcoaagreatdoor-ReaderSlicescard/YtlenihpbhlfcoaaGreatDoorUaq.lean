import Derived.Test.YtlenihpbhlfcoaaGreatDoorUap
set_option maxHeartbeats 8000000
set_option maxRecDepth 100000
set_option linter.unusedSimpArgs false
set_option linter.unusedVariables false
namespace Go.Proofs.YtlenihpbhlfcoaaGreatDoor
open Go.RowKit
def TX (Tb : Nat) (a : Option Addr) (n c P : Nat) (V : World) : Prop := V.heap[Tb]? = some (.cells #[.slice a n c, .int .i64 (P : Int)] 222)
theorem TX.cells {Tb : Nat} {a : Option Addr} {n c P : Nat} {V : World} (h : TX Tb a n c P V) : V.cell? ⟨Tb, 0, none⟩ = some (.slice a n c) ∧ V.cell? ⟨Tb, 1, none⟩ = some (.int .i64 (P : Int)) ∧ V.frozen? ⟨Tb, 1, none⟩ = false := by
 unfold TX at h;refine ⟨?_, ?_, ?_⟩ <;> simp [World.cell?, World.frozen?, h]
theorem TX.kept {Tb : Nat} {a : Option Addr} {n c P : Nat} {V V' : World} {X : Nat → Prop} (h : TX Tb a n c P V) (f : Fr X V V') (hx : ¬ X Tb) : TX Tb a n c P V' := f.heapv h hx
theorem TX.set {Tb : Nat} {a : Option Addr} {n c P : Nat} {V : World} (h : TX Tb a n c P V) (Q : Nat) : TX Tb a n c Q (V.setCell ⟨Tb, 1, none⟩ (.int .i64 (Q : Int))) ∧ Fr (fun k => k = Tb) V (V.setCell ⟨Tb, 1, none⟩ (.int .i64 (Q : Int))) := by
 refine ⟨?_, (Fr.refl _ _).setCell _ _ (.inl rfl)⟩;unfold TX at h ⊢;simp [World.setCell, Array.getElem?_modify, h]
def NuA (w : World) (Tb : Nat) (a : Option Addr) (n c P : Nat) (r : Nat × Nat × Nat) (e : Ending) (V : World) : Prop := e = .returned (.tuple #[.int .i64 (r.1 : Int), .int .i64 (r.2.2 : Int)]) ∧ Hid (Fr (fun k => k = Tb) w V ∧ TX Tb a n c (P + r.2.1) V)
def badD (N I y : Nat) : Prop := y < 48 ∨ 57 < y ∨ (0 < I ∧ N = 0) ∨ (9223372036854775807 - (y - 48)) / 10 < N
instance (N I y : Nat) : Decidable (badD N I y) := by unfold badD; infer_instance
theorem tdiv10 (d : Nat) (hd : d ≤ 9) : ((9223372036854775807 : Int) - (d : Int)).tdiv 10 = (((9223372036854775807 - d) / 10 : Nat) : Int) := by
 rw [Int.tdiv_eq_ediv_of_nonneg (by omega)]; omega
theorem number_any15 {X : Nat → Prop} (w : World) (Tb : Nat) (a : Option Addr) (n c P : Nat) (b : List By) (hb : Sl X (.slice a n c) b w) (hn : n ≤ 140737488351232) (hP : P ≤ n) (hT : TX Tb a n c P w) :
  Calls Tryz.prog 189 #[.pointer (some ⟨Tb, 0, none⟩)] w (NuA w Tb a n c P (nr 0 0 (b.drop P))) := by
 refine asP fun Q hQ => ?_
 obtain ⟨hbn, k1, k2⟩ := slx_len hb;obtain ⟨t0, t1, t2⟩ := hT.cells;have HBad : Hid (∀ V e, Nw w V → nr 0 0 (b.drop P) = (0, 0, e) → Q (.returned (.tuple #[.int .i64 0, .int .i64 (e : Int)])) V) := fun V e hV he => by
  rw [hQ, he];exact ⟨rfl, hV.any, hT.kept hV (fun h => h)⟩
 have HOk : Hid (∀ V N I, Nw w V → nr 0 0 (b.drop P) = (N, I + 1, 0) → Q (.returned (.tuple #[.int .i64 (N : Int), .int .i64 0])) (V.setCell ⟨Tb, 1, none⟩ (.int .i64 ((P + (I + 1) : Nat) : Int)))) := fun V N I hV he => by
  rw [hQ, he];obtain ⟨q1, q2⟩ := (hT.kept hV (fun h => h)).set (P + (I + 1));exact ⟨rfl, hV.any.trans q2, q1⟩
 have HCB : Hid (∀ V, Nw w V → ∀ i (h : i < b.length), ∃ g o, a = some ⟨g, o, none⟩ ∧ V.cell? ⟨g, o + i, none⟩ = some (.int .u8 b[i].toNat)) := fun V hV i h => slx_at (hb.nw hV) i h
 have HTC : Hid (∀ V, Nw w V → V.cell? ⟨Tb, 1, none⟩ = some (.int .i64 (P : Int)) ∧ V.frozen? ⟨Tb, 1, none⟩ = false) := fun V hV => by
  have := (hT.kept hV (fun h => h)).cells;exact ⟨this.2.1, this.2.2⟩
 have hPi : (P : Int) ≤ (n : Int) := by omega
 have hnc : (n : Int) ≤ (c : Int) := by omega
 by_cases hc : P < c
 ·obtain ⟨gb, ob, rfl⟩ : ∃ gb ob, a = some ⟨gb, ob, none⟩ := by
   rcases hb with ⟨_, e, _⟩ | ⟨gb, _, ob, _, e, _⟩
   ·injection e with e1 e2 e3; omega
   ·injection e with e1 e2 e3; exact ⟨gb, ob, e1⟩
  have HCx : Hid (∀ V, Nw w V → ∀ i (h : P + i < b.length), V.cell? ⟨gb, ob + P + i, none⟩ = some (.int .u8 (b[P + i]'h).toNat)) := fun V hV i h => by
   obtain ⟨g, o, e, e1⟩ := HCB.out V hV (P + i) h;injection e with e;injection e with e2 e3;subst e2 e3;rw [Nat.add_assoc]; exact e1
  obtain ⟨L, hL⟩ : ∃ L, n - P = L := ⟨_, rfl⟩;obtain ⟨C1, hC1⟩ : ∃ C1, c - P = C1 := ⟨_, rfl⟩;have e3 : ¬ c ≤ P := by omega
  have e5 : ¬ c = P := by omega
  have e6 : (n : Int) - (P : Int) = (L : Int) := by omega
  have HBN := tHid hbn;clear hQ hT hb hbn HCB;go_enter Tryz.func189, Tryz.ntmps189;go_upto_region 2 with fail
  go_quiet (fail)
  go_upto_region 3 with fail
  go_loopg [4, 19] L (fun kx nn i wr => ∃ (I N : Nat), I ≤ L ∧ L - I ≤ kx ∧ N ≤ 9223372036854775807 ∧ nn = .int .i64 N ∧ i = .int .i64 I ∧ Hid (Nw w wr ∧ nr 0 0 (b.drop P) = nr N I (b.drop (P + I))))
  case atStart => exact ⟨0, 0, by omega, by omega, by omega, rfl, rfl, (Fr.refl _ _).drewN _, rfl⟩
  case round =>
   obtain ⟨I, N, hI, hkx, hN, rfl, rfl, HI⟩ := hrel;obtain ⟨hNw, hnr⟩ := HI.out;by_cases hlt : I < L
   ·have hltb : P + I < b.length := by have := HBN.out; omega
    have hcell := HCx.out wr hNw I hltb;obtain ⟨u1, u2⟩ := HTC.out wr hNw;rw [List.drop_eq_getElem_cons hltb] at hnr;have hy8 := (b[P + I]'hltb).isLt;have hxe : ∀ z : Nat, z < 256 → (b[P + I]'hltb).toNat = z → b[P + I]'hltb = BitVec.ofNat 8 z := fun z hz h => BitVec.eq_of_toNat_eq (by rw [h, BitVec.toNat_ofNat]; omega)
    obtain ⟨y, hy⟩ : ∃ y, (b[P + I]'hltb).toNat = y := ⟨_, rfl⟩;rw [hy] at hcell hy8;have HLF : Hid (y = 10 → 0 < I → nr 0 0 (b.drop P) = (N, I + 1, 0)) := fun h1 h2 => by
     rw [hnr, hxe 10 (by omega) (by rw [hy, h1])]; exact nr_lf _ _ _ h2
    have HBB : Hid (¬ (y = 10 ∧ 0 < I) → badD N I y → nr 0 0 (b.drop P) = (0, 0, 3)) := fun h1 h2 => by
     rw [hnr];exact nr_bad _ _ _ _ (fun h => h1 ⟨by rw [← hy, h.1]; rfl, h.2⟩) (by rw [hy]; exact h2)
    have HGO : Hid (¬ (y = 10 ∧ 0 < I) → ¬ badD N I y → nr 0 0 (b.drop P) = nr (N * 10 + (y - 48)) (I + 1) (b.drop (P + (I + 1)))) := fun h1 h2 => by
     rw [hnr, nr_go _ _ _ _ (fun h => h1 ⟨by rw [← hy, h.1]; rfl, h.2⟩) (by rw [hy]; exact h2), hy];rfl
    have HN := tHid hNw;clear HI hnr hxe hy hNw;have hIl : (I : Int) < (L : Int) := by omega
    go_upto_region 5 with fail
    obtain ⟨B, hB⟩ : ∃ B, decide (y = 10 ∧ 0 < I) = B := ⟨_, rfl⟩;have HB := tHid hB;clear hB;go_cut [29] from 24 to 29 (fun q wx => q = .bool B ∧ wr = wx)
    case first =>
     have hB := HB.out;clear HBad HOk HCx HTC HLF HBB HGO HN HB u1 u2 hcell;by_cases h10 : y = 10
     ·subst h10;by_cases hI0 : 0 < I
      ·have : B = true := by rw [← hB]; exact decide_eq_true ⟨rfl, hI0⟩
       subst this;have hI0i : (0 : Int) < (I : Int) := by omega
       clear hB
       go_wp2_with fail
       go_meet
       exact ⟨rfl, rfl⟩
      ·have : B = false := by rw [← hB]; exact decide_eq_false (fun h => hI0 h.2)
       subst this;have hI0i : ¬ (0 : Int) < (I : Int) := by omega
       clear hB
       go_wp2_with fail
       go_meet
       exact ⟨rfl, rfl⟩
     ·have : B = false := by rw [← hB]; exact decide_eq_false (fun h => h10 h.1)
      subst this;have h10i : ¬ ((y : Int) = 10) := by omega
      clear hB
      go_wp2_with fail
      go_meet
      exact ⟨rfl, rfl⟩
    case rest =>
    obtain ⟨rfl, hwc⟩ := hcut;subst hwc;have hBB := HB.out;cases B with
    | true =>
     obtain ⟨h10, hI0⟩ := of_decide_eq_true hBB;have HQ := tHid (HOk.out wr N I HN.out (HLF.out h10 hI0));obtain ⟨I1, hI1⟩ : ∃ I1, I + 1 = I1 := ⟨_, rfl⟩;obtain ⟨PI, hPI⟩ : ∃ PI, P + I1 = PI := ⟨_, rfl⟩;rw [hI1, hPI] at HQ;have j1 : (I : Int) + 1 = (I1 : Int) := by omega
     have j2 : (P : Int) + (I1 : Int) = (PI : Int) := by omega
     clear HBad HOk HCx HTC HLF HBB HGO HN HB hBB hI1 hPI h10 hI0 hcell
     go_wp2_with fail
     first | exact HQ.out | (go_ret; exact HQ.out)
    | false =>
     have hnB := of_decide_eq_false hBB;obtain ⟨d, hd⟩ : ∃ d : Int, (y : Int) - 48 = d := ⟨_, rfl⟩;have HD := tHid hd;obtain ⟨Z, hZ⟩ : ∃ Z, decide (0 < I ∧ N = 0) = Z := ⟨_, rfl⟩;have HZ := tHid hZ;obtain ⟨C, hC⟩ : ∃ C, decide (badD N I y) = C := ⟨_, rfl⟩;have HC := tHid hC;have HNB := tHid hnB;clear hZ hC hnB hBB HB hcell u1 u2;go_upto_region 9 with fail;clear hd;go_cut [8] from 43 to 48 (fun q wx => q = .bool Z ∧ wr = wx)
     case first =>
      have hZ := HZ.out;clear HBad HOk HCx HTC HLF HBB HGO HN HZ HC HNB HD;by_cases hI0 : 0 < I
      ·have hI0i : (0 : Int) < (I : Int) := by omega
       by_cases hN0 : N = 0
       ·have : Z = true := by rw [← hZ]; exact decide_eq_true ⟨hI0, hN0⟩
        subst this;subst hN0;clear hZ
        go_wp2_with fail
        go_meet
        exact ⟨rfl, rfl⟩
       ·have : Z = false := by rw [← hZ]; exact decide_eq_false (fun h => hN0 h.2)
        subst this;have hN0i : ((N : Int) == 0) = false := by rw [beq_eq_false_iff_ne]; omega
        clear hZ
        go_wp2_with fail
        go_meet
        exact ⟨rfl, rfl⟩
      ·have : Z = false := by rw [← hZ]; exact decide_eq_false (fun h => hI0 h.1)
       subst this;have hI0i : ¬ (0 : Int) < (I : Int) := by omega
       clear hZ
       go_wp2_with fail
       go_meet
       exact ⟨rfl, rfl⟩
     case rest =>
     obtain ⟨rfl, hwc⟩ := hcut;subst hwc;go_upto_region 10 with fail;go_cut [64] from 49 to 64 (fun q wx => q = .bool C ∧ wr = wx)
     case first =>
      have hC := HC.out;have hZ := HZ.out;have hd := HD.out;clear HBad HOk HCx HTC HLF HBB HGO HN HZ HC HNB HD;have hCt : badD N I y → C = true := fun h => by rw [← hC]; exact decide_eq_true h
      have hCf : ¬ badD N I y → C = false := fun h => by rw [← hC]; exact decide_eq_false h
      clear hC;by_cases hd0 : d < 0
      ·have : C = true := hCt (show badD N I y from .inl (by omega));subst this;clear hCt hCf hZ hd
       go_wp2_with fail
       go_meet
       exact ⟨rfl, rfl⟩
      ·by_cases hd9 : 9 < d
       ·have : C = true := hCt (show badD N I y from .inr (.inl (by omega)));subst this;clear hCt hCf hZ hd
        go_wp2_with fail
        go_meet
        exact ⟨rfl, rfl⟩
       ·cases Z with
        | true =>
         have : C = true := hCt (show badD N I y from .inr (.inr (.inl (of_decide_eq_true hZ))));subst this;clear hCt hCf hZ hd
         go_wp2_with fail
         go_meet
         exact ⟨rfl, rfl⟩
        | false =>
         obtain ⟨dn, hdn⟩ : ∃ dn : Nat, d = dn := ⟨d.toNat, by omega⟩;subst hdn;have hnz := of_decide_eq_false hZ;have htd := tdiv10 dn (by omega);obtain ⟨qn, hqn⟩ : ∃ qn, (9223372036854775807 - dn) / 10 = qn := ⟨_, rfl⟩;have hyd : y - 48 = dn := by omega
         rw [hqn] at htd;have hq1 : ((9223372036854775807 : Int) - (dn : Int)) / 10 = (qn : Int) := by omega
         by_cases hov : qn < N
         ·have : C = true := hCt (show badD N I y from .inr (.inr (.inr (by rw [hyd, hqn]; exact hov))));subst this;have hovi : (qn : Int) < (N : Int) := by omega
          clear hCt hCf hZ hd hnz hqn hyd
          go_wp2_with fail
          go_meet
          exact ⟨rfl, rfl⟩
         ·have : C = false := hCf (fun h => by
           unfold badD at h;rw [hyd, hqn] at h;rcases h with h | h | h | h
           ·omega
           ·omega
           ·exact hnz h
           ·exact hov h)
          subst this;have hovi : ¬ (qn : Int) < (N : Int) := by omega
          clear hCt hCf hZ hd hnz hqn hyd
          go_wp2_with fail
          go_meet
          exact ⟨rfl, rfl⟩
     case rest =>
     obtain ⟨rfl, hwc⟩ := hcut;subst hwc;have hCC := HC.out;cases C with
     | true =>
      have HQ := tHid (HBad.out wr 3 HN.out (HBB.out HNB.out (of_decide_eq_true hCC)));clear HBad HOk HCx HTC HLF HBB HGO HN HC HNB HD HZ hCC
      go_wp2_with fail
      first | exact HQ.out | (go_ret; exact HQ.out)
     | false =>
      have hnb := of_decide_eq_false hCC;have hg := HGO.out HNB.out hnb;unfold badD at hnb;obtain ⟨dn, hdn⟩ : ∃ dn : Nat, d = dn := ⟨d.toNat, by have := HD.out; omega⟩;subst hdn;have hyd : y - 48 = dn := by have := HD.out; omega
      rw [hyd] at hg hnb;have hbound : N * 10 + dn ≤ 9223372036854775807 := by
       have h1 : N ≤ (9223372036854775807 - dn) / 10 := by omega
       rw [Nat.le_div_iff_mul_le (by omega)] at h1;omega
      obtain ⟨N1, hN1⟩ : ∃ N1, N * 10 = N1 := ⟨_, rfl⟩;obtain ⟨N2, hN2⟩ : ∃ N2, N1 + dn = N2 := ⟨_, rfl⟩;rw [hN1, hN2] at hg hbound;have j1 : (N : Int) * 10 = (N1 : Int) := by omega
      have j2 : (N1 : Int) + (dn : Int) = (N2 : Int) := by omega
      have j3 : N1 ≤ 9223372036854775807 := by omega
      have HNX : Hid (Nw w wr ∧ nr 0 0 (b.drop P) = nr N2 (I + 1) (b.drop (P + (I + 1)))) := ⟨HN.out, hg⟩;clear HBad HOk HCx HTC HLF HBB HGO HN HC HNB HD HZ hCC hnb hg hyd hN1 hN2
      go_wp2_with fail
      go_roundg (L - (I + 1))
      case measure => omega
      case rel => exact ⟨I + 1, N2, by omega, by omega, by omega, rfl, by first | rfl | (congr 1), HNX⟩
   ·have HQ := tHid (HBad.out wr 4 hNw (by rw [hnr, List.drop_eq_nil_of_le (by have := HBN.out; omega)]; rfl));obtain rfl : I = L := by omega
    clear HBad HOk HCx HTC HI hNw hnr
    go_wp2_with fail
    first | exact HQ.out | (go_ret; exact HQ.out)
 ·obtain rfl : n = P := by omega
  obtain rfl : c = n := by omega
  have HQ : Hid (∀ V, Nw w V → Q (.returned (.tuple #[.int .i64 0, .int .i64 4])) V) := fun V hV => HBad.out V 4 hV (by rw [List.drop_eq_nil_of_le (by omega)]; rfl)
  cases a with
  | none =>
   have h0 : c = 0 := by
    rcases hb with ⟨_, e, _⟩ | ⟨gb, _, ob, _, e, _⟩
    ·injection e with e1 e2 e3
    ·injection e with e1 e2 e3; cases e1
   subst h0;simp only [Int.natCast_zero] at t1;clear hQ hT hb hbn HCB HBad HOk HTC;go_enter Tryz.func189, Tryz.ntmps189;go_upto_region 2 with fail
   go_quiet (fail)
   go_upto_region 3 with fail
   go_loopg [19] 0 (fun kx i wr => i = .int .i64 0 ∧ Hid (Nw w wr))
   case atStart => exact ⟨rfl, (Fr.refl _ _).drewN _⟩
   case round =>
    obtain ⟨rfl, HR⟩ := hrel;have HQ2 := tHid (HQ.out wr HR.out);clear HQ
    go_wp2_with fail
    first | exact HQ2.out | (go_ret; exact HQ2.out)
  | some ad =>
   clear hQ hT hb hbn HCB HBad HOk HTC;go_enter Tryz.func189, Tryz.ntmps189;go_upto_region 2 with fail
   go_quiet (fail)
   go_upto_region 3 with fail
   go_loopg [19] 0 (fun kx i wr => i = .int .i64 0 ∧ Hid (Nw w wr))
   case atStart => exact ⟨rfl, (Fr.refl _ _).drewN _⟩
   case round =>
    obtain ⟨rfl, HR⟩ := hrel;have HQ2 := tHid (HQ.out wr HR.out);clear HQ
    go_wp2_with fail
    first | exact HQ2.out | (go_ret; exact HQ2.out)
theorem isSize_any (w : World) (u : Nat) : Calls Tryz.prog 233 #[.int .i64 u] w fun e w' => e = .returned (.bool true) ∧ w' = w := by
 have h : (0 : Int) ≤ (u : Int) := by omega
 go_enter Tryz.func233, Tryz.ntmps233
 go_wp2_with fail
 first | exact ⟨rfl, rfl⟩ | (go_ret; exact ⟨rfl, rfl⟩)
theorem add_any15 (w : World) (u v : Nat) (hu : u ≤ 9223372036854775807) (hv : v ≤ 9223372036854775807) : Calls Tryz.prog 219 #[.int .i64 u, .int .i64 v] w fun e w' => (e = if u + v ≤ 9223372036854775807 then .returned (.tuple #[.int .i64 ((u + v : Nat) : Int), .int .i64 0]) else .returned (.tuple #[.int .i64 0, .int .i64 10])) ∧ w' = w := by
 refine asP fun P hP => ?_
 have H1 := tHid (isSize_any w u);have H2 := tHid (isSize_any w v);by_cases h : u + v ≤ 9223372036854775807
 ·have HF : Hid (P (.returned (.tuple #[.int .i64 ((u + v : Nat) : Int), .int .i64 0])) w) := by show P _ _; rw [hP, if_pos h]; exact ⟨rfl, rfl⟩
  have hc : ¬ (9223372036854775807 : Int) - (v : Int) < (u : Int) := by omega
  obtain ⟨z, hz⟩ : ∃ z, u + v = z := ⟨_, rfl⟩;have hzi : (u : Int) + (v : Int) = (z : Int) := by omega
  rw [hz] at h HF;clear hz hP;go_enter Tryz.func219, Tryz.ntmps219
  go_wp2_with (first
   | (go_at_call 233; with_reducible refine H1.out.mono ?_; rintro e w1 ⟨rfl, rfl⟩)
   | (go_at_call 233; with_reducible refine H2.out.mono ?_; rintro e w1 ⟨rfl, rfl⟩))
  first | exact HF.out | (go_ret; exact HF.out)
 ·have HF : Hid (P (.returned (.tuple #[.int .i64 0, .int .i64 10])) w) := by show P _ _; rw [hP, if_neg h]; exact ⟨rfl, rfl⟩
  have hc : (9223372036854775807 : Int) - (v : Int) < (u : Int) := by omega
  clear hP;go_enter Tryz.func219, Tryz.ntmps219
  go_wp2_with (first
   | (go_at_call 233; with_reducible refine H1.out.mono ?_; rintro e w1 ⟨rfl, rfl⟩)
   | (go_at_call 233; with_reducible refine H2.out.mono ?_; rintro e w1 ⟨rfl, rfl⟩))
  first | exact HF.out | (go_ret; exact HF.out)
def told1 (b : List By) (p : Nat) : (Nat × Nat) × Nat × Nat :=
 let r1 := nr 0 0 (b.drop p)
 if r1.2.2 ≠ 0 then ((0, 0), p + r1.2.1, r1.2.2) else
 let r2 := nr 0 0 (b.drop (p + r1.2.1))
 if r2.2.2 ≠ 0 then ((0, 0), p + r1.2.1 + r2.2.1, r2.2.2) else
 if 9223372036854775807 - r1.1 < r2.1 then ((0, 0), p + r1.2.1 + r2.2.1, 3) else ((r1.1, r1.1 + r2.1), p + r1.2.1 + r2.2.1, 0)
theorem one1_bad (b : List By) (e p : Nat) (h : (told1 b p).2.2 ≠ 0) : one1 b e p = ((0, 0), 0, (told1 b p).2.2) := by
 unfold told1 at h ⊢;unfold one1;simp only at h ⊢;by_cases h1 : (nr 0 0 (b.drop p)).2.2 ≠ 0
 ·rw [if_pos h1, if_pos h1]
 ·rw [if_neg h1] at h ⊢;rw [if_neg h1];by_cases h2 : (nr 0 0 (b.drop (p + (nr 0 0 (b.drop p)).2.1))).2.2 ≠ 0
  ·rw [if_pos h2, if_pos h2]
  ·rw [if_neg h2] at h ⊢;rw [if_neg h2];by_cases h3 : 9223372036854775807 - (nr 0 0 (b.drop p)).1 < (nr 0 0 (b.drop (p + (nr 0 0 (b.drop p)).2.1))).1
   ·rw [if_pos h3, if_pos (.inr h3)]
   ·rw [if_neg h3] at h; exact absurd rfl h
theorem one1_ok (b : List By) (e p : Nat) (h : (told1 b p).2.2 = 0) : one1 b e p = if (told1 b p).1.1 < e then ((0, 0), 0, 3) else told1 b p := by
 unfold told1 at h ⊢;unfold one1;simp only at h ⊢;by_cases h1 : (nr 0 0 (b.drop p)).2.2 ≠ 0
 ·rw [if_pos h1] at h; exact absurd h h1
 ·rw [if_neg h1] at h;rw [if_neg h1, if_neg h1];by_cases h2 : (nr 0 0 (b.drop (p + (nr 0 0 (b.drop p)).2.1))).2.2 ≠ 0
  ·rw [if_pos h2] at h; exact absurd h h2
  ·rw [if_neg h2] at h;rw [if_neg h2, if_neg h2];by_cases h3 : 9223372036854775807 - (nr 0 0 (b.drop p)).1 < (nr 0 0 (b.drop (p + (nr 0 0 (b.drop p)).2.1))).1
   ·rw [if_pos h3] at h; cases h
   ·rw [if_neg h3];by_cases h4 : (nr 0 0 (b.drop p)).1 < e
    ·rw [if_pos (.inl h4), if_pos h4]
    ·rw [if_neg (fun h => by rcases h with h | h; exact h4 h; exact h3 h), if_neg h4]
theorem row_set15 {w : World} {g : Nat} {R : Array Value} {T : Nat} (h : w.heap[g]? = some (.cells R T)) (j : Nat) (v : Value) : (w.setCell ⟨g, j, none⟩ v).heap[g]? = some (.cells (R.setIfInBounds j v) T) := by
 simp [World.setCell, Array.getElem?_modify, h]
theorem setSame {w : World} {g i : Nat} {R : Array Value} {T : Nat} {v : Value} (h : w.heap[g]? = some (.cells R T)) (hv : R[i]? = some v) : w.setCell ⟨g, i, none⟩ v = w := by
 have hh : (w.setCell ⟨g, i, none⟩ v).heap = w.heap := by
  apply Array.ext_getElem?
  intro k;by_cases hk : k = g
  ·subst hk;rw [row_set15 h i v, h];congr 2;apply Array.ext_getElem?;intro j;rw [Array.getElem?_setIfInBounds];split
   ·rename_i e;subst e;split
    ·exact hv.symm
    ·rename_i hlt;rw [Array.getElem?_eq_none (by omega)] at hv;cases hv
   ·rfl
  ·simp [World.setCell, Array.getElem?_modify, Ne.symm hk]
 cases w;simp only [World.setCell] at hh ⊢;simp_all
theorem two_set {w : World} {g : Nat} {a b : Value} {T : Nat} (h : w.heap[g]? = some (.cells #[a, b] T)) (x y : Value) : ((w.setCell ⟨g, 0, none⟩ x).setCell ⟨g, 1, none⟩ y).heap[g]? = some (.cells #[x, y] T) := by
 simp [World.setCell, Array.getElem?_modify, h]
theorem two_cells {w : World} {g : Nat} {a b : Value} {T : Nat} (h : w.heap[g]? = some (.cells #[a, b] T)) : (w.cell? ⟨g, 0, none⟩ = some a ∧ w.frozen? ⟨g, 0, none⟩ = false) ∧ (w.cell? ⟨g, 1, none⟩ = some b ∧ w.frozen? ⟨g, 1, none⟩ = false) := by
 refine ⟨⟨?_, ?_⟩, ⟨?_, ?_⟩⟩ <;> simp [World.cell?, World.frozen?, h]
theorem hretT {R : Ending → World → Prop} {a : Act} {w : World} {x y : Value} (sb : Nat) (h1 : a.tmps.getD 2 undef = .pointer (some ⟨sb, 0, none⟩)) (hrow : w.heap[sb]? = some (.cells #[x, y] 54)) (hd : a.defers = []) (hR : R (.returned (.tuple #[.agg #[x, y], a.tmps.getD 3 undef])) w) : bodyPost Tryz.prog Tryz.f187 R .ret a w := by
 have hi : (Tryz.prog.info? 54).map (·.size) = some (#[x, y] : Array Value).size := by show _ = some 2; kernel_rfl
 have hl := run_loadVar_row (P := Tryz.prog) w sb 54 54 #[x, y] (0, 0) _ hrow Tryz.underlying54 rfl hi;have hp' : a.tmps[2]?.getD undef = .pointer (some ⟨sb, 0, none⟩) := by simpa using h1
 refine bodyPost_ret ?_ hd hR;simp [results, hp', asAddr, hl, Tryz.results187]
def ToA (w : World) (Tb : Nat) (a : Option Addr) (n c : Nat) (r : (Nat × Nat) × Nat × Nat) (e : Ending) (V : World) : Prop := e = .returned (.tuple #[.agg #[.int .i64 (r.1.1 : Int), .int .i64 (r.1.2 : Int)], .int .i64 (r.2.2 : Int)]) ∧ Hid (Fr (fun k => k = Tb) w V ∧ TX Tb a n c r.2.1 V)
theorem told_any (w : World) (Tb : Nat) (a : Option Addr) (n c P : Nat) (b : List By) (hb : Sl (fun k => k = Tb) (.slice a n c) b w) (hn : n ≤ 140737488351232) (hP : P ≤ n) (hT : TX Tb a n c P w) :
  Calls Tryz.prog 187 #[.func (.func 189) #[.pointer (some ⟨Tb, 0, none⟩)] #[]] w (ToA w Tb a n c (told1 b P)) := by
 refine asP fun Q hQ => ?_
 obtain ⟨hbn, k1, k2⟩ := slx_len hb;have hTl : Tb < w.heap.size := (Array.getElem?_eq_some_iff.1 hT).1;obtain ⟨RB, hRB⟩ : ∃ RB, w.heap.size = RB := ⟨_, rfl⟩;obtain ⟨w0, hw0⟩ : ∃ w0, w.alloc (.cells #[.int .i64 0, .int .i64 0] 54) = w0 := ⟨_, rfl⟩;have hN0 : Nw w w0 := by rw [← hw0]; exact (Fr.refl _ _).alloc _
 have hrow0 : w0.heap[RB]? = some (.cells #[.int .i64 0, .int .i64 0] 54) := by rw [← hw0, ← hRB]; exact nHeap _ _
 have HFin : Hid (∀ V F T p e, told1 b P = ((F, T), p, e) → Fr (fun k => k = Tb ∨ k = RB) w0 V → TX Tb a n c p V → Q (.returned (.tuple #[.agg #[.int .i64 (F : Int), .int .i64 (T : Int)], .int .i64 (e : Int)])) V) := fun V F T p e h1 h2 h3 => by
  rw [hQ, h1];exact ⟨rfl, hN0.any.then h2 (fun i hi => by rcases hi with h | h; exact .inl h; exact .inr (by omega)), h3⟩
 have HRow : Hid (∀ V, Fr (fun k => k = Tb) w0 V → V.heap[RB]? = some (.cells #[.int .i64 0, .int .i64 0] 54)) := fun V hV => hV.heapv hrow0 (by omega)
 have HNum : Hid (∀ V p, Fr (fun k => k = Tb) w0 V → TX Tb a n c p V → p ≤ n → Calls Tryz.prog 189 #[.pointer (some ⟨Tb, 0, none⟩)] V (NuA V Tb a n c p (nr 0 0 (b.drop p)))) := fun V p hV ht hp => number_any15 V Tb a n c p b ((hb.nw hN0).kept hV (fun g h => h)) hn hp ht
 have HT0 : Hid (TX Tb a n c P w0) := hT.kept hN0 (fun h => h);have HRB := tHid hRB;have HW0 := tHid hw0;clear hQ hT hb hN0 hrow0 hRB hw0;have HLe : Hid (∀ p m k, nr 0 0 (b.drop p) = (m, k, 0) → p ≤ n → p + k ≤ n ∧ m ≤ 9223372036854775807) := fun p m k h1 h2 => by
  have := num_inv _ _ _ h1;rw [List.length_drop, hbn] at this;exact ⟨by omega, this.2.2.2⟩
 have hC1 := HNum.out w0 P (Fr.refl _ _) HT0.out hP;unfold NuA at hC1;cases hr1 : nr 0 0 (b.drop P) with
 | mk n1 r1' =>
 obtain ⟨q1, e1⟩ := r1';rw [hr1] at hC1;have HC1 := tHid hC1;clear hC1;by_cases he1 : e1 = 0
 ·subst he1;obtain ⟨hle1, hm1⟩ := HLe.out P n1 q1 hr1 hP;simp only at HC1;cases hr2 : nr 0 0 (b.drop (P + q1)) with
  | mk n2 r2' =>
  obtain ⟨q2, e2⟩ := r2';have HNum2 : Hid (∀ V, Fr (fun k => k = Tb) w0 V → TX Tb a n c (P + q1) V → Calls Tryz.prog 189 #[.pointer (some ⟨Tb, 0, none⟩)] V fun e V' => e = .returned (.tuple #[.int .i64 (n2 : Int), .int .i64 (e2 : Int)]) ∧ Hid (Fr (fun k => k = Tb) V V' ∧ TX Tb a n c (P + q1 + q2) V')) := fun V hV ht => by
   have := HNum.out V (P + q1) hV ht hle1;unfold NuA at this;rw [hr2] at this;exact this
  by_cases he2 : e2 = 0
  ·subst he2;obtain ⟨hle2, hm2⟩ := HLe.out (P + q1) n2 q2 hr2 hle1;have HAdd := tHid (fun V => add_any15 V n1 n2 hm1 hm2);by_cases hov : n1 + n2 ≤ 9223372036854775807
   ·have hto : told1 b P = ((n1, n1 + n2), P + q1 + q2, 0) := by
     unfold told1; simp only [hr1, hr2]; rw [if_neg (by simp), if_neg (by simp), if_neg (by omega)]
    simp only [if_pos hov] at HAdd;obtain ⟨T, hT⟩ : ∃ T, n1 + n2 = T := ⟨_, rfl⟩;rw [hT] at HAdd hto;clear hT;go_enter Tryz.func187, Tryz.ntmps187;go_upto_region 1 with fail;rw [HRB.out, HW0.out]
    go_wp2_with fail
    refine HC1.out.mono ?_;rintro e w1 ⟨rfl, H1⟩;have HC2 := tHid (HNum2.out w1 H1.out.1 H1.out.2)
    go_wp2_with fail
    refine HC2.out.mono ?_;rintro e w2 ⟨rfl, H2⟩;have hF2 : Fr (fun k => k = Tb) w0 w2 := H1.out.1.trans H2.out.1;have hrow := HRow.out w2 hF2;obtain ⟨⟨v0, v1⟩, ⟨v2, v3⟩⟩ := two_cells hrow;have hrow2 := two_set hrow (.int .i64 (n1 : Int)) (.int .i64 (T : Int));obtain ⟨U1, hU1⟩ : ∃ U1, w2.setCell ⟨RB, 0, none⟩ (.int .i64 (n1 : Int)) = U1 := ⟨_, rfl⟩;obtain ⟨U2, hU2⟩ : ∃ U2, U1.setCell ⟨RB, 1, none⟩ (.int .i64 (T : Int)) = U2 := ⟨_, rfl⟩;rw [hU1, hU2] at hrow2
    have d1 : U1.cell? ⟨RB, 1, none⟩ = w2.cell? ⟨RB, 1, none⟩ := by rw [← hU1]; exact World.cell?_setCell_other _ _ _ _ (fun e => by have := congrArg Addr.off e; simp at this)
    have d2 : U1.frozen? ⟨RB, 1, none⟩ = w2.frozen? ⟨RB, 1, none⟩ := by rw [← hU1]; exact World.frozen?_setCell _ _ _ _
    rw [v2] at d1;rw [v3] at d2;have hfU : Fr (fun k => k = RB) w2 U2 := by
     have f1 : Fr (fun k => k = RB) w2 U1 := by rw [← hU1]; exact (Fr.refl (fun k => k = RB) _).setCell _ _ (.inl rfl)
     rw [← hU2];exact f1.setCell _ _ (.inl rfl)
    have HF2 := tHid (HFin.out U2 n1 T _ 0 hto ((hF2.mono (fun i hi => .inl (.inl hi))).trans (hfU.mono (fun i hi => .inl (.inr hi)))) (H2.out.2.kept hfU (by have := HRB.out; omega)));have HRow1 := tHid hrow2;clear HFin HRow HNum HNum2 HT0 HLe HC1 HC2 H1 H2 hrow hto hF2 hrow2 hfU hr1 hr2
    go_wp2_with (first
     | (go_at_call 219; with_reducible refine (HAdd.out _).mono ?_; rintro e w3 ⟨rfl, rfl⟩))
    exact hretT RB rfl HRow1.out rfl HF2.out
   ·have hto : told1 b P = ((0, 0), P + q1 + q2, 3) := by
     unfold told1; simp only [hr1, hr2]; rw [if_neg (by simp), if_neg (by simp), if_pos (by omega)]
    simp only [if_neg hov] at HAdd;go_enter Tryz.func187, Tryz.ntmps187;go_upto_region 1 with fail;rw [HRB.out, HW0.out]
    go_wp2_with fail
    refine HC1.out.mono ?_;rintro e w1 ⟨rfl, H1⟩;have HC2 := tHid (HNum2.out w1 H1.out.1 H1.out.2)
    go_wp2_with fail
    refine HC2.out.mono ?_;rintro e w2 ⟨rfl, H2⟩;have hF2 : Fr (fun k => k = Tb) w0 w2 := H1.out.1.trans H2.out.1;have hrow := HRow.out w2 hF2;obtain ⟨⟨v0, v1⟩, ⟨v2, v3⟩⟩ := two_cells hrow;have s0 := setSame hrow (i := 0) (v := .int .i64 0) rfl;have s1 := setSame hrow (i := 1) (v := .int .i64 0) rfl;have HF2 := tHid (HFin.out w2 0 0 _ 3 hto (hF2.mono (fun i hi => .inl (.inl hi))) H2.out.2);have HRow1 := tHid hrow;clear HFin HRow HNum HNum2 HT0 HLe HC1 HC2 H1 H2 hrow hto hF2 hr1 hr2
    go_wp2_with (first
     | (go_at_call 219; with_reducible refine (HAdd.out _).mono ?_; rintro e w3 ⟨rfl, rfl⟩))
    exact hretT RB rfl HRow1.out rfl HF2.out
  ·have hto : told1 b P = ((0, 0), P + q1 + q2, e2) := by
    unfold told1; simp only [hr1, hr2]; rw [if_neg (by simp), if_pos he2]
   have he2i : ¬ ((e2 : Int) = 0) := by omega
   go_enter Tryz.func187, Tryz.ntmps187
   go_upto_region 1 with fail
   rw [HRB.out, HW0.out]
   go_wp2_with fail
   refine HC1.out.mono ?_;rintro e w1 ⟨rfl, H1⟩;have HC2 := tHid (HNum2.out w1 H1.out.1 H1.out.2)
   go_wp2_with fail
   refine HC2.out.mono ?_;rintro e w2 ⟨rfl, H2⟩;have hF2 : Fr (fun k => k = Tb) w0 w2 := H1.out.1.trans H2.out.1;have hrow := HRow.out w2 hF2;obtain ⟨⟨v0, v1⟩, ⟨v2, v3⟩⟩ := two_cells hrow;have s0 := setSame hrow (i := 0) (v := .int .i64 0) rfl;have s1 := setSame hrow (i := 1) (v := .int .i64 0) rfl;have HF2 := tHid (HFin.out w2 0 0 _ e2 hto (hF2.mono (fun i hi => .inl (.inl hi))) H2.out.2);have HRow1 := tHid hrow;clear HFin HRow HNum HNum2 HT0 HLe HC1 HC2 H1 H2 hrow hto hF2 hr1 hr2
   go_wp2_with fail
   exact hretT RB rfl HRow1.out rfl HF2.out
 ·have hto : told1 b P = ((0, 0), P + q1, e1) := by unfold told1; simp only [hr1]; rw [if_pos he1]
  have he1i : ¬ ((e1 : Int) = 0) := by omega
  simp only at HC1;go_enter Tryz.func187, Tryz.ntmps187;go_upto_region 1 with fail;rw [HRB.out, HW0.out]
  go_wp2_with fail
  refine HC1.out.mono ?_;rintro e w1 ⟨rfl, H1⟩;have hrow := HRow.out w1 H1.out.1;obtain ⟨⟨v0, v1⟩, ⟨v2, v3⟩⟩ := two_cells hrow;have s0 := setSame hrow (i := 0) (v := .int .i64 0) rfl;have s1 := setSame hrow (i := 1) (v := .int .i64 0) rfl;have HF2 := tHid (HFin.out w1 0 0 (P + q1) e1 hto (H1.out.1.mono (fun i hi => .inl (.inl hi))) H1.out.2);have HRow1 := tHid hrow;clear HFin HRow HNum HT0 HLe HC1 H1 hrow hto
  go_wp2_with fail
  exact hretT RB rfl HRow1.out rfl HF2.out
end Go.Proofs.YtlenihpbhlfcoaaGreatDoor

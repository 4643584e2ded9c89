import Derived.Test.YtpnacppmdlnjlaaRows
import Derived.Test.YtpnacppmdlnjlaaPaV
import Derived.Test.YtpnacppmdlnjlaaLzOp
namespace Go.Proofs.Ytpnacppmdlnjlaa
namespace lzParses
open Go.ChangeShapes Go.WideShapes Go.ChangeAt Go.RowKit Go.Deep
set_option linter.unusedVariables false
set_option maxHeartbeats 40000000 in
set_option maxRecDepth 100000 in
theorem walk (w : World) (ab : Option Addr) (cb : Nat) (b : List By) (hb : Old w (.slice ab b.length cb) b) (hbl : b.length ≤ 100000000) :
    Calls Try.prog 4 #[.slice ab b.length cb] w fun e w' => e = .returned (.bool true) ∧ Nw w w' := by
  obtain ⟨l, at', why, hpar⟩ : ∃ l at' why, parse b = (l, at', why) := ⟨_, _, _, rfl⟩
  have HC := chainP w _ b hb hbl l at' why hpar
  have hpb := parse_bound b
  rw [hpar] at hpb
  obtain ⟨hl, hlp⟩ := hpb
  simp only at hl hlp
  have HLP : Hid (∀ s ∈ l, s.p.length ≤ 140737488351232) := fun s hs => by have := hlp s hs; omega
  clear hb hpar hlp
  obtain ⟨P, hP⟩ : ∃ P : Ending → World → Prop, P = fun e w' => e = .returned (.bool true) ∧ Nw w w' := ⟨_, rfl⟩
  rw [← hP]
  have HP : Hid (P = fun e w' => e = .returned (.bool true) ∧ Nw w w') := hP
  clear hP
  have hLl : l.length ≤ 100000000 := by omega
  obtain ⟨B, hB⟩ : ∃ B, B = b.length := ⟨_, rfl⟩
  rw [← hB]
  have HC' : Hid (Calls Try.prog 9 #[.slice ab B cb] w fun e w1 => ∃ g1 c1, e = .returned (.tuple #[.slice (some ⟨g1, 0, none⟩) B c1, .slice (some ⟨g1, 0, none⟩) (B + 32) c1]) ∧
      Hid (Calls Try.prog 15 #[.slice (some ⟨g1, 0, none⟩) B c1] w1 fun e w2 => ∃ a2 c2, e = .returned (.tuple #[.slice a2 l.length c2, .int .i64 at', .int .i64 why]) ∧
        Hid (Calls Try.prog 15 #[.slice (some ⟨g1, 0, none⟩) B c1] w2 fun e w3 => ∃ a3 c3, e = .returned (.tuple #[.slice a3 l.length c3, .int .i64 at', .int .i64 why]) ∧
          Hid (Calls Try.prog 16 #[.slice ab B cb] w3 fun e w4 => ∃ a4 c4, e = .returned (.tuple #[.slice a4 l.length c4, .int .i64 at', .int .i64 why]) ∧
            Hid (SeqsC (.slice a2 l.length c2) (.slice a4 l.length c4) w4) ∧ Hid (SeqsC (.slice a3 l.length c3) (.slice a4 l.length c4) w4) ∧ Hid (∀ V, Nw w4 V → Calls Try.prog 13 #[.slice (some ⟨g1, 0, none⟩) (B + 32) c1, .slice ab B cb] V fun e w' => e = .returned (.bool true) ∧ Nw w4 w') ∧
            Hid (∃ gs, ∀ V, Nw w4 V → PQ w (.slice ab b.length cb) b l g1 c1 (.slice a2 l.length c2) (.slice a3 l.length c3) (.slice a4 l.length c4) gs V))))) := by rw [hB]; exact HC
  have hB' : Hid (B = b.length) := hB
  have hbl' : Hid (b.length ≤ 100000000) := hbl
  clear HC hB hbl hl
  unfold SeqsC at HC'
  go_enter Try.func4, Try.ntmps4
  go_wp2_with (first
    | (go_at_call 9; with_reducible refine (HC'.out).mono ?_; rintro e w1 ⟨g1, c1, rfl, HC2⟩)
    | (go_at_call 15; with_reducible refine (HC2.out).mono ?_; rintro e w2 ⟨a2, c2, rfl, HC3⟩)
    | (go_at_call 15; with_reducible refine (HC3.out).mono ?_; rintro e w3 ⟨a3, c3, rfl, HC4⟩)
    | (go_at_call 16; with_reducible refine (HC4.out).mono ?_; rintro e w4 ⟨a4, c4, rfl, S1, S2, S3, HPQ⟩)
    | (go_at_call 17; with_reducible refine (S1.out _ (by first | assumption | exact Fr.refl _ _)).mono ?_; rintro e v1 ⟨rfl, n1⟩)
    | (go_at_call 17; with_reducible refine (S2.out _ (by first | assumption | exact Fr.refl _ _)).mono ?_; rintro e v2 ⟨rfl, n2⟩)
    | (go_at_call 13; with_reducible refine (S3.out _ (by first | assumption | exact Fr.refl _ _)).mono ?_; rintro e v3 ⟨rfl, n3⟩))
  obtain ⟨gs, hQ⟩ := HPQ.out
  have HQ : Hid (PQ w (.slice ab b.length cb) b l g1 c1 (.slice a2 l.length c2) (.slice a3 l.length c3) (.slice a4 l.length c4) gs v3) := hQ v3 n3
  clear hQ HPQ HC' HC2 HC3 HC4 S1 S2 S3 n1 n2 n3
  obtain ⟨L, hL⟩ : ∃ L, L = l.length := ⟨_, rfl⟩
  rw [← hL]
  have hL' : Hid (L = l.length) := hL
  have hLL : L ≤ 100000000 := by omega
  clear hL hLl
  go_loopg [14] L (fun kx i wr => ∃ (I : Nat), I ≤ L ∧ L - I ≤ kx ∧ i = .int .i64 I ∧ Hid (Fr (FU gs I) v3 wr))
  case atStart => exact ⟨0, by omega, by omega, rfl, Fr.refl _ _⟩
  case round =>
    obtain ⟨I, hI, hkx, rfl, HI⟩ := hrel
    by_cases hlt : I < L
    · obtain ⟨g, qa, qn, qc, rfl, hcell, hlc, HFU⟩ := full_step HQ.out HLP.out I (by rw [← hL'.out]; exact hlt) wr HI.out
      have hlc' : L ≤ c2 := by rw [hL'.out]; exact hlc
      have hz : (I : Int) < (L : Int) := by omega
      clear hlc HI
      go_wp2_with (first
        | (go_at_call 14; with_reducible refine (HFU.out).mono ?_; rintro e w6 ⟨⟨r6, rfl⟩, HF6⟩))
      go_roundg (L - (I + 1))
      case measure => omega
      case rel => exact ⟨I + 1, by omega, by omega, by first | rfl | (congr 1), HF6⟩
    · have hz : ¬ (I : Int) < (L : Int) := by omega
      have HZ0 : Hid (ZI l a2 (.slice a2 l.length c2) gs v3 wr) := ZI.start HQ.out wr I HI.out
      clear HI
      go_wp2
      go_loopg [15] L (fun kx i wr => ∃ (J : Nat), J ≤ L ∧ L - J ≤ kx ∧ i = .int .i64 J ∧ Hid (ZI l a2 (.slice a2 l.length c2) gs v3 wr))
      case atStart => exact ⟨0, by omega, by omega, rfl, HZ0⟩
      case round =>
        obtain ⟨J, hJ, hkx2, rfl, HZ⟩ := hrel
        clear HZ0
        by_cases hlt2 : J < L
        · obtain ⟨g, ha, ⟨u0, u1, u2, d0, d1, d2, f0, f1, f2⟩, HZ'⟩ := HZ.out.step J (by rw [← hL'.out]; exact hlt2)
          subst ha
          have hz2 : (J : Int) < (L : Int) := by omega
          clear HZ
          go_wp2_with fail
          go_roundg (L - (J + 1))
          case measure => omega
          case rel => exact ⟨J + 1, by omega, by omega, by first | rfl | (congr 1), HZ'⟩
        · have hz2 : ¬ (J : Int) < (L : Int) := by omega
          obtain ⟨X, hF, hX, _⟩ := HZ.out
          have HLS := last_step HQ.out (by rw [← hL'.out]; exact hLL) (by have := hbl'.out; omega) HLP.out _ X hF hX
          unfold SeqsC at HLS
          rw [← hB'.out, ← hL'.out] at HLS
          clear HZ HQ hF hX
          go_wp2_with (first
            | (go_at_call 15; with_reducible refine (HLS.out).mono ?_; rintro e w7 ⟨a7, c7, rfl, Q1, Q2, HN7⟩)
            | (go_at_call 17; with_reducible refine (Q1.out _ (by first | assumption | exact Fr.refl _ _)).mono ?_; rintro e y1 ⟨rfl, m1⟩)
            | (go_at_call 13; with_reducible refine (Q2.out _ (by first | assumption | exact Fr.refl _ _)).mono ?_; rintro e y2 ⟨rfl, m2⟩))
          rw [HP.out]
          exact ⟨rfl, HN7.out.trans m2⟩
end lzParses
end Go.Proofs.Ytpnacppmdlnjlaa

import Derived.Test.YtpnacppmdlnjlabEnH
import Derived.Carry
namespace Go.Proofs.Ytpnacppmdlnjlab
open Go.RowKit
set_option linter.unusedVariables false
/-- What encode answers. -/
def Encd (T : List By) (A : Nat) (w : World) (e : Ending) (w' : World) : Prop :=
  ∃ a' c' ms e', e = .returned (.slice a' (mk ms (T.drop e')).length c') ∧ EncTo T A A [] (ms, e') ∧ (∃ a, EI T A e' a ms) ∧ Mine (fun k => k < w.heap.size) (.slice a' (mk ms (T.drop e')).length c') (mk ms (T.drop e')) w' ∧ Nw w w'
theorem EnR.begin (w w1 : World) (hN : Nw w w1) (gT cT A : Nat) (T : List By) (hg : w.heap.size ≤ gT) (hO : Ow gT (.slice (some ⟨gT, 0, none⟩) T.length cT) T w1) (hA : A ≤ T.length) :
    Hid (EnR w (w1.heap.size + 3) (w1.heap.size + 2) gT cT A T A A (.slice none 0 0) (((w1.alloc (.map #[] 0)).alloc (.map #[] 0)).alloc (.cells #[.slice (some ⟨gT, 0, none⟩) T.length cT, .map (some w1.heap.size), .map (some (w1.heap.size + 1)), .int .i64 0] 53))) := by
  have hgl := hO.lt
  have hs := hN.size
  have s1 : (w1.alloc (.map #[] 0)).heap.size = w1.heap.size + 1 := by simp
  have s2 : ((w1.alloc (.map #[] 0)).alloc (.map #[] 0)).heap.size = w1.heap.size + 2 := by simp
  have hN3 : Nw w1 (((w1.alloc (.map #[] 0)).alloc (.map #[] 0)).alloc (.cells #[.slice (some ⟨gT, 0, none⟩) T.length cT, .map (some w1.heap.size), .map (some (w1.heap.size + 1)), .int .i64 0] 53)) := (((Fr.refl _ _).alloc _).alloc _).alloc _
  have hN2 : Nw (w1.alloc (.map #[] 0)) (((w1.alloc (.map #[] 0)).alloc (.map #[] 0)).alloc (.cells #[.slice (some ⟨gT, 0, none⟩) T.length cT, .map (some w1.heap.size), .map (some (w1.heap.size + 1)), .int .i64 0] 53)) := ((Fr.refl _ _).alloc _).alloc _
  have m1 := (MpO.made w1).nw hN2
  have m2 := (MpO.made (w1.alloc (.map #[] 0))).nw (w' := ((w1.alloc (.map #[] 0)).alloc (.map #[] 0)).alloc (.cells #[.slice (some ⟨gT, 0, none⟩) T.length cT, .map (some w1.heap.size), .map (some (w1.heap.size + 1)), .int .i64 0] 53)) ((Fr.refl _ _).alloc _)
  rw [s1] at m2
  obtain ⟨o, c', e, h1, h2, h3⟩ := hO.slb
  injection e with e1 e2 e3
  injection e1 with e1
  injection e1 with _ e1
  subst e1 e3
  refine ⟨[], w1.heap.size, w1.heap.size + 1, 0, ⟨⟨?_, fun j hj => hN3.cell (h3 j hj), m1, m2, by omega, by omega, by omega, by omega, by omega, by omega, h1, h2⟩, Nat.zero_le _, EI.start T A hA, hA, .inl ⟨rfl, rfl⟩, by omega, by omega, hN.trans hN3, fun r hr => hr, by simp, by omega⟩⟩
  have hh := heap_alloc_new ((w1.alloc (.map #[] 0)).alloc (.map #[] 0)) (.cells #[.slice (some ⟨gT, 0, none⟩) T.length cT, .map (some w1.heap.size), .map (some (w1.heap.size + 1)), .int .i64 0] 53)
  rw [s2] at hh
  exact hh
set_option maxHeartbeats 32000000 in
set_option maxRecDepth 100000 in
theorem encode_any (w : World) (vp va : Value) (p ahead : List By) (hp : Old w vp p) (ha : Old w va ahead) (hpl : p.length ≤ 4194304) (hal : ahead.length ≤ 65535) :
    Calls Try.prog 10 #[vp, va] w (Encd (ahead ++ p) ahead.length w) := by
  obtain ⟨P, hP⟩ : ∃ P, P = Encd (ahead ++ p) ahead.length w := ⟨_, rfl⟩
  rw [← hP]
  have HP : Hid (P = Encd (ahead ++ p) ahead.length w) := hP
  clear hP
  have hTl : (ahead ++ p).length = ahead.length + p.length := List.length_append
  obtain ⟨T, hTd⟩ : ∃ T, T = ahead ++ p := ⟨_, rfl⟩
  have hA0 : Nw w (w.alloc (.cells #[va, vp] 22)) := (Fr.refl _ _).alloc _
  have hsz0 : (w.alloc (.cells #[va, vp] 22)).heap.size = w.heap.size + 1 := by simp
  have HCC : Hid (Calls Try.prog 14 #[.slice (some ⟨w.heap.size, 0, none⟩) 2 2] (w.alloc (.cells #[va, vp] 22)) fun e w1 => ∃ a' c', e = .returned (.slice a' T.length c') ∧ Hid (Mine (fun k => k < w.heap.size) (.slice a' T.length c') T w1 ∧ Nw w w1)) := by
    show Calls _ _ _ _ _
    refine (concat_any _ w.heap.size va vp ahead p (by omega) (new_cell _ _ _ _ _ rfl) (new_cell _ _ _ _ _ rfl) (Sl.later ha hA0) (Sl.later hp hA0) (by omega)).mono ?_
    rw [← hTd]
    rintro e w1 ⟨a', c', rfl, hM, hN⟩
    exact ⟨a', c', rfl, hM.more (fun g hg => .inl (by omega)), hA0.trans hN⟩
  rw [← hTd] at HP hTl
  obtain ⟨aa, ac, rfl, _, _⟩ := ha.form
  obtain ⟨pa, pc, rfl, _, _⟩ := hp.form
  have hmm := @run_makeMap Try.prog
  clear hp ha hsz0 hA0
  generalize hA : ahead.length = A at *
  generalize p.length = N0 at *
  have HN : Hid (T.length ≤ 10000000 ∧ A ≤ T.length) := ⟨by omega, by omega⟩
  clear hTd hTl hA
  go_enter Try.func10, Try.ntmps10
  go_wp2_with (first
    | (go_at_call 14; with_reducible refine (HCC.out).mono ?_; rintro e w1 ⟨a', c', rfl, HM1⟩))
  clear HCC hmm
  rcases HM1.out.1 with ⟨e0, hT0⟩ | ⟨gT, hgT, hO⟩
  · subst hT0
    injection e0 with e1 _ e2
    subst e1 e2
    obtain rfl : A = 0 := by have := HN.out.2; simpa using this
    have hN1 := HM1.out.2
    have hs1 := hN1.size
    have hN3 : Nw w (((w1.alloc (.map #[] 0)).alloc (.map #[] 0)).alloc (.cells #[.slice none 0 0, .map (some w1.heap.size), .map (some (w1.heap.size + 1)), .int .i64 0] 53)) := ((hN1.alloc _).alloc _).alloc _
    have HL' : Hid (Calls Try.prog 18 #[.slice none 0 0, .agg #[.slice none 0 0, .int .i64 0, .int .i64 0]] (((w1.alloc (.map #[] 0)).alloc (.map #[] 0)).alloc (.cells #[.slice none 0 0, .map (some w1.heap.size), .map (some (w1.heap.size + 1)), .int .i64 0] 53)) fun e w5 => ∃ a5 c5, e = .returned (.slice a5 (mk [] ([] : List By)).length c5) ∧ Hid (P (.returned (.slice a5 (mk [] ([] : List By)).length c5)) w5)) := by
      show Calls _ _ _ _ _
      refine (put_any (fun k => k < w.heap.size) _ (fun k hk => Nat.lt_of_lt_of_le hk hN3.size) (.slice none 0 0) [] (.inl ⟨rfl, rfl⟩) (.slice none 0 0) ⟨[], 0, 0⟩ (.inl ⟨none, rfl, rfl⟩) (by simp) (by simp) (.inl ⟨rfl, rfl⟩) (by simp)).mono ?_
      rintro e w5 ⟨v5, rfl, hM5, hF5⟩
      have e1 : [] ++ encP ⟨[], 0, 0⟩ = mk [] ([] : List By) := by unfold mk encP; rw [if_pos rfl]; rfl
      rw [e1] at hM5
      obtain ⟨a5, c5, rfl, _, _⟩ := hM5.sl.form
      refine ⟨a5, c5, rfl, ?_⟩
      show P _ _
      rw [HP.out]
      exact ⟨a5, c5, [], 0, rfl, .done (by simp), ⟨0, EI.start [] 0 (by simp)⟩, hM5, Fr.then hN3 hF5 (fun k hk => .inr (by omega))⟩
    clear HM1 HP hN3 hN1
    simp only [List.length_nil]
    generalize hWW : (((w1.alloc (.map #[] 0)).alloc (.map #[] 0)).alloc (.cells #[.slice none 0 0, .map (some w1.heap.size), .map (some (w1.heap.size + 1)), .int .i64 0] 53)) = W5 at *
    go_loopg [7, 8, 9] 1 (fun kx vb bg at' wr => vb = .slice none 0 0 ∧ bg = .int .i64 0 ∧ at' = .int .i64 0 ∧ wr = W5)
    case atStart => exact ⟨rfl, rfl, rfl, rfl⟩
    case round =>
      obtain ⟨rfl, rfl, rfl, rfl⟩ := hrel
      go_wp2_with (first
        | (go_at_call 18; with_reducible refine (HL'.out).mono ?_; rintro e w5 ⟨a5, c5, rfl, HE5⟩))
      exact HE5.out
  · have hgT' : w.heap.size ≤ gT := by omega
    have hO' := hO
    obtain ⟨xs, e0, _, hxl, hxc, _⟩ := hO'
    injection e0 with e1 _ e2
    subst e1 e2
    have HB := EnR.begin w w1 HM1.out.2 gT xs.length A T hgT' hO HN.out.2
    have HPE : Hid (∀ e W, (∃ a' c' ms e', e = .returned (.slice a' (mk ms (T.drop e')).length c') ∧ EncTo T A A [] (ms, e') ∧ (∃ a, EI T A e' a ms) ∧ Mine (fun k => k < w.heap.size) (.slice a' (mk ms (T.drop e')).length c') (mk ms (T.drop e')) W ∧ Nw w W) → P e W) := fun e W h => by rw [HP.out]; exact h
    clear HM1 HP hO hgT hgT'
    generalize xs.length = cT at *
    generalize hW0 : w1.heap.size + 3 = W0 at *
    generalize hpb : w1.heap.size + 2 = pb at *
    have HTl : Hid (T.length = T.length) := rfl
    generalize hNN : T.length = N at *
    have hNN' : Hid (T.length = N) := hNN
    clear hNN HTl
    go_loopg [7, 8, 9] (N + 1) (fun kx vb bg at' wr => ∃ b a : Nat, b ≤ a ∧ a ≤ N ∧ N + 1 - a ≤ kx ∧ (∃ x y z, vb = .slice x y z) ∧ bg = .int .i64 b ∧ at' = .int .i64 a ∧ Hid (EnR w W0 pb gT cT A T b a vb wr))
    case atStart => exact ⟨A, A, by omega, by have := HN.out; omega, by omega, ⟨_, _, _, rfl⟩, rfl, rfl, HB⟩
    case round =>
      obtain ⟨b, a, hba, haN, hkx, ⟨x7, y7, z7, rfl⟩, rfl, rfl, HI⟩ := hrel
      clear HB
      have hNl : N ≤ 10000000 := HN.out.1
      obtain ⟨hcT, hcT2⟩ : N ≤ cT ∧ cT < 9223372036854775808 := by
        obtain ⟨ms, nb, fb, nx, h⟩ := HI.out
        exact ⟨by rw [← hNN'.out]; exact h.pls.tl, h.pls.tc⟩
      by_cases h12 : a + 12 ≤ N
      · have hz0 : (a : Int) ≤ (N : Int) - 12 := by omega
        cases hf : fnd T a with
        | none =>
          have HS := HI.out.skip (by rw [hNN'.out]; exact hNl) (by rw [hNN'.out]; exact h12) hf
          clear HI HPE
          go_wp2_with (first
            | (go_at_call 15; with_reducible refine (HS.out).mono ?_; rintro e w2 ⟨q, rfl, HI2⟩))
          go_roundg (N + 1 - (a + 1))
          all_goals (first | omega | exact ⟨b, a + 1, by omega, by omega, by omega, ⟨_, _, _, rfl⟩, rfl, by first | rfl | (congr 1), HI2⟩)
        | some f =>
          obtain ⟨k, hk⟩ : ∃ k, k = alkA T b f a := ⟨_, rfl⟩
          obtain ⟨n, hn⟩ : ∃ n, n = cm ((T.take (T.length - 5)).drop (f - k)) ((T.take (T.length - 5)).drop (a - k)) := ⟨_, rfl⟩
          have hh := hit_of hba (by rw [hNN'.out]; exact h12) hf hk hn
          have HH := HI.out.hit (by rw [hNN'.out]; exact hNl) (by rw [hNN'.out]; exact h12) f k n hf hk hn
          obtain ⟨i1, i2, i3, i4, i5, i6, _, _⟩ := hh
          rw [hNN'.out] at HH i6
          have hz1 : (a : Int) - (f : Int) = ((a - f : Nat) : Int) := by omega
          have hz2 : (a : Int) - (k : Int) = ((a - k : Nat) : Int) := by omega
          have hz3 : ((a - k : Nat) : Int) - ((a - f : Nat) : Int) = ((f - k : Nat) : Int) := by omega
          have hz4 : (N : Int) - 5 = ((N - 5 : Nat) : Int) := by omega
          have hz5 : ((a - k : Nat) : Int) + (n : Int) = ((a - k + n : Nat) : Int) := by omega
          have hz6 : b ≤ a - k := by omega
          have hz7 : a - k ≤ cT := by omega
          have hz8 : ¬ cT = b := by omega
          have hz9 : N - 5 ≤ cT := by omega
          have hza : a - k + n ≤ N := by omega
          have hzc : a < a - k + n := by omega
          have hzb : (0 : Int) ≤ ((N - 5 : Nat) : Int) := by omega
          have hzd : n ≤ 10000000 := by omega
          have hze : f ≤ 10000000 := by omega
          have hzf : a - k ≤ 10000000 := by omega
          have hzg : a - f ≤ 10000000 := by omega
          clear HI HPE hk hn hf i1 i2 i3 i4 i5 i6
          generalize a - k + n = e' at *
          generalize a - k = ak at *
          generalize a - f = af at *
          generalize f - k = fk at *
          generalize N - 5 = N5 at *
          go_wp2_with (first
            | (go_at_call 15; with_reducible refine (HH.out).mono ?_; rintro e w2 ⟨rfl, HH2⟩)
            | (go_at_call 16; with_reducible refine (HH2.out).mono ?_; rintro e w3 ⟨rfl, HH3⟩)
            | (go_at_call 17; with_reducible refine (HH3.out).mono ?_; rintro e w4 ⟨rfl, HH4⟩)
            | (go_at_call 18; with_reducible refine (HH4.out).mono ?_; rintro e w5 ⟨v5, rfl, HI2⟩))
          go_roundg (N + 1 - e')
          all_goals (first | omega | exact ⟨e', e', by omega, by omega, by omega, by
            obtain ⟨ms, nb, fb, nx, h⟩ := HI2.out
            obtain ⟨x, y, z, _⟩ := h.mine.sl.form
            exact ⟨_, _, _, by assumption⟩, rfl, by first | rfl | (congr 1), HI2⟩)
      · have hz0 : ¬ (a : Int) ≤ (N : Int) - 12 := by omega
        have HL := fun ad had => HI.out.last (by rw [hNN'.out]; exact hNl) (by rw [hNN'.out]; exact h12) ad had
        rw [hNN'.out] at HL
        clear HI
        by_cases hcb : cT = b
        · have HL' := HL 0 (.inr hcb.symm)
          obtain rfl : N = b := by omega
          subst hcb
          rw [Nat.sub_self] at HL'
          clear HL
          go_wp2_with (first
            | (go_at_call 18; with_reducible refine (HL'.out).mono ?_; rintro e w5 ⟨a5, c5, ms5, e5, rfl, h51, h52, h53, h54⟩))
          exact HPE.out _ _ ⟨a5, c5, ms5, e5, rfl, h51, ⟨_, h52⟩, h53, h54⟩
        · have HL' := HL b (.inl rfl)
          have hz1 : b ≤ N := by omega
          clear HL
          go_wp2_with (first
            | (go_at_call 18; with_reducible refine (HL'.out).mono ?_; rintro e w5 ⟨a5, c5, ms5, e5, rfl, h51, h52, h53, h54⟩))
          exact HPE.out _ _ ⟨a5, c5, ms5, e5, rfl, h51, ⟨_, h52⟩, h53, h54⟩
end Go.Proofs.Ytpnacppmdlnjlab

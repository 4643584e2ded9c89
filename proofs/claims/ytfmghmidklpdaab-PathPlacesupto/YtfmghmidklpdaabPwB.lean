import Derived.Test.YtfmghmidklpdaabPwA
namespace Go.Proofs.Ytfmghmidklpdaab
open Go.RowKit
set_option linter.unusedVariables false
theorem ptsF_at (ps : List Tx) (I : Nat) (hI : I < ps.length) (h0 : ∀ p ∈ ps.take I, ptF p = 0) (h1 : ptF ps[I] ≠ 0) : ptsF ps = ptF ps[I] := by
  induction ps generalizing I with
  | nil => simp at hI
  | cons p r ih =>
    cases I with
    | zero => rw [ptsF]; simp at h1 ⊢; intro h; exact absurd h h1
    | succ I =>
      rw [ptsF, if_pos (h0 p (by simp))]
      exact ih I (by simpa using hI) (fun q hq => h0 q (by simp [hq])) (by simpa using h1)
theorem tot_snoc (ps : List Tx) (p : Tx) : tot (ps ++ [p]) = tot ps + p.length + 1 := by
  induction ps with
  | nil => simp [tot]
  | cons q r ih => rw [List.cons_append, tot, tot, ih]; omega
theorem tot_take (ps : List Tx) (I : Nat) (hI : I < ps.length) : tot (ps.take (I + 1)) = tot (ps.take I) + ps[I].length + 1 := by
  rw [List.take_add_one, List.getElem?_eq_getElem hI, Option.toList_some, tot_snoc]
theorem take_snoc_mem {ps : List Tx} {I : Nat} (hI : I < ps.length) {Q : Tx → Prop} (h : ∀ p ∈ ps.take I, Q p) (h1 : Q ps[I]) : ∀ p ∈ ps.take (I + 1), Q p := by
  intro p hp
  rw [List.take_add_one, List.getElem?_eq_getElem hI, Option.toList_some, List.mem_append, List.mem_singleton] at hp
  rcases hp with hp | rfl
  · exact h p hp
  · exact h1
theorem ft_bad {ps : List Tx} {I : Nat} (hI : I < ps.length) (h0 : ∀ p ∈ ps.take I, ptF p = 0) (h1 : ptF ps[I] ≠ 0) : ftF ps = ptF ps[I] := by
  have e := ptsF_at ps I hI h0 h1
  unfold ftF
  rw [if_neg (by intro e; rw [e] at hI; simp at hI), e, if_neg h1]
set_option maxHeartbeats 8000000 in
set_option maxRecDepth 100000 in
theorem fault_any (w : World) (v : Value) (ps : List Tx) (hv : SlR RS (fun _ => False) v ps w) (hb : ∀ p ∈ ps, p.length ≤ 140737488351232) (hn : ps.length ≤ 17592186044416) :
    Calls Try.prog 11 #[v] w fun e w' => e = .returned (.int .i64 ((ftF ps : Nat) : Int)) ∧ Nw w w' := by
  obtain ⟨P, hP⟩ : ∃ P : Ending → World → Prop, P = fun e w' => e = .returned (.int .i64 ((ftF ps : Nat) : Int)) ∧ Nw w w' := ⟨_, rfl⟩
  rw [← hP]
  have HF : Hid (∀ (z : Int) V, ((ftF ps : Nat) : Int) = z → Nw w V → P (.returned (.int .i64 z)) V) := fun z V hz hV => by rw [hP]; exact ⟨by rw [hz], hV⟩
  obtain ⟨a, c, rfl, k1, k2, _⟩ := hv.form
  have HI1 : Hid (SlR RS (fun _ => False) (.slice a ps.length c) ps w) := hv
  have HB : Hid (∀ p ∈ ps, p.length ≤ 140737488351232) := hb
  clear hP hv hb
  by_cases h0 : ps = []
  · have HF1 : Hid (P (.returned (.int .i64 90)) w) := HF.out 90 w (by unfold ftF; rw [if_pos h0]; rfl) (Fr.refl _ _)
    subst h0
    clear HF HI1 HB
    show Calls _ _ #[.slice a 0 c] _ _
    go_enter Try.func11, Try.ntmps11
    go_wp2_with fail
    exact HF1.out
  have hlen : 0 < ps.length := List.length_pos_iff.2 h0
  obtain ⟨N, hN⟩ : ∃ N, N = ps.length := ⟨_, rfl⟩
  have HN : Hid (N = ps.length ∧ ps ≠ []) := ⟨hN, h0⟩
  rw [← hN] at HI1 k1 hn hlen ⊢
  clear hN h0
  have hn0 : ¬ (N : Int) = 0 := by omega
  have hnb : ((N : Int) == 0) = false := beq_eq_false_iff_ne.2 hn0
  obtain ⟨M, hM⟩ : ∃ M : Nat, (N : Int) - 1 = (M : Int) ∧ M + 1 = N := ⟨N - 1, by omega, by omega⟩
  have hMi := hM.1
  have hM2 := tHid hM.2
  clear hM
  go_enter Try.func11, Try.ntmps11
  go_wp2
  go_loopg [3, 15] N (fun kx z i wr => ∃ (I S : Nat), I ≤ N ∧ N - I ≤ kx ∧ z = .int .i64 S ∧ i = .int .i64 I ∧ S ≤ N + 256 * I ∧ Hid (Nw w wr ∧ S + I + 1 = N + tot (ps.take I) ∧ ∀ p ∈ ps.take I, ptF p = 0))
  case atStart => exact ⟨0, M, by omega, by omega, rfl, rfl, by have := hM2.out; omega, Fr.refl _ _, by have := hM2.out; simp [tot]; omega, fun p hp => by simp at hp⟩
  case round =>
    obtain ⟨I, S, hI, hkx, rfl, rfl, hS, HI⟩ := hrel
    obtain ⟨hNw, hT, hZ⟩ := HI.out
    have hNl := HN.out.1
    by_cases hlt : I < N
    · have hlt' : I < ps.length := by omega
      obtain ⟨g1, o1, rfl, _, hcell1⟩ := rs_at (HI1.out.nw hNw) I hlt'
      have hpb := HB.out _ (List.getElem_mem hlt')
      have HC : Hid (Calls Try.prog 20 #[.string (mk ps[I])] wr fun e w' => e = .returned (.int .i64 ((ptF ps[I] : Nat) : Int)) ∧ Hid (Nw w w')) := by
        show Calls _ _ _ _ _
        exact (faultOf_any ps[I] wr hpb).mono (fun e w' ⟨h1, h2⟩ => ⟨h1, hNw.trans h2⟩)
      have hsz := mk_size ps[I]
      by_cases hp : ptF ps[I] = 0
      · have hle := ((ptF_zero _).1 hp).2.2.2.2
        have HI2 : Hid (∀ V, Nw w V → Nw w V ∧ S + ps[I].length + (I + 1) + 1 = N + tot (ps.take (I + 1)) ∧ ∀ p ∈ ps.take (I + 1), ptF p = 0) := fun V hV => ⟨hV, by rw [tot_take ps I hlt']; omega, take_snoc_mem hlt' hZ hp⟩
        rw [hp] at HC
        have y1 : (mk ps[I]).size ≤ 255 := by omega
        obtain ⟨S2, hS2⟩ : ∃ S2 : Nat, S2 = S + (mk ps[I]).size := ⟨_, rfl⟩
        have y2 : IntKind.i64.wrap ((S : Int) + ((mk ps[I]).size : Int)) = (S2 : Int) := by rw [IntKind.wrap_i64]; omega
        have y3 : (S : Int) + ((mk ps[I]).size : Int) = (S2 : Int) := by omega
        have y4 : S2 ≤ N + 256 * (I + 1) := by omega
        rw [← hsz, ← hS2] at HI2
        clear HI HF HN hNw hT hZ HI1 HB hNl hsz hp hle hS2 hpb
        generalize mk ps[I] = x at *
        go_wp2_with (first | (go_at_call 20; with_reducible refine HC.out.mono ?_; rintro e w1 ⟨rfl, H1⟩))
        go_roundg (N - (I + 1))
        case measure => omega
        case rel => exact ⟨I + 1, S2, by omega, by omega, rfl, by first | rfl | (congr 1), y4, HI2.out _ H1.out⟩
      · have HF1 : Hid (∀ V, Nw w V → P (.returned (.int .i64 ((ptF ps[I] : Nat) : Int))) V) := fun V hV => HF.out _ V (by rw [ft_bad hlt' hZ hp]) hV
        have hne : (((ptF ps[I] : Nat) : Int) == 0) = false := by rw [beq_eq_false_iff_ne]; omega
        have hne2 : ¬ ((ptF ps[I] : Nat) : Int) = 0 := by omega
        clear HI HF HN hNw hT hZ HI1 HB hNl hsz hp hpb
        generalize mk ps[I] = x at *
        generalize ptF ps[I] = y at *
        go_wp2_with (first | (go_at_call 20; with_reducible refine HC.out.mono ?_; rintro e w1 ⟨rfl, H1⟩))
        exact HF1.out _ H1.out
    · rw [List.take_of_length_le (by omega)] at hT hZ
      have hpz := (ptsF_zero ps).2 hZ
      have hE : ftF ps = if 256 < ps.length then 95 else if 4096 + 1 < tot ps then 2 else 0 := by unfold ftF; rw [if_neg HN.out.2, if_pos hpz]
      by_cases b6 : 256 < N
      · rw [if_pos (by omega)] at hE
        have HF1 := tHid (HF.out 95 wr (by rw [hE]; rfl) hNw)
        have y1 : (256 : Int) < (N : Int) := by omega
        clear HI HF HN hNw hT hZ HI1 HB hNl hpz hE
        go_wp2_with fail
        exact HF1.out
      · rw [if_neg (by omega)] at hE
        have y1 : ¬ (256 : Int) < (N : Int) := by omega
        by_cases b7 : 4096 < S
        · rw [if_pos (by omega)] at hE
          have HF1 := tHid (HF.out 2 wr (by rw [hE]; rfl) hNw)
          have y2 : (4096 : Int) < (S : Int) := by omega
          clear HI HF HN hNw hT hZ HI1 HB hNl hpz hE
          go_wp2_with fail
          exact HF1.out
        · rw [if_neg (by omega)] at hE
          have HF1 := tHid (HF.out 0 wr (by rw [hE]; rfl) hNw)
          have y2 : ¬ (4096 : Int) < (S : Int) := by omega
          clear HI HF HN hNw hT hZ HI1 HB hNl hpz hE
          go_wp2_with fail
          exact HF1.out
end Go.Proofs.Ytfmghmidklpdaab

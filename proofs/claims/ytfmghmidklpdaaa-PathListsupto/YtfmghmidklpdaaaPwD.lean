import Derived.Test.YtfmghmidklpdaaaPwB
import Derived.Test.YtfmghmidklpdaaaPwC
namespace Go.Proofs.Ytfmghmidklpdaaa
open Go.RowKit
set_option linter.unusedVariables false
theorem join_jn (ps : List Tx) : Lib.join ps [47] = jn ps := by
  induction ps with
  | nil => rfl
  | cons p r ih =>
    rw [Lib.join_cons]
    cases r with
    | nil => simp [Lib.joinTail, jn]
    | cons q r =>
      rw [Lib.join_cons] at ih
      rw [jn, ← ih]
      simp [Lib.joinTail]
theorem nw_of {w w' : World} (h : Below w.heap.size w w') : Nw w w' := ⟨h.os, h.tape, h.output, h.size, fun k hk _ => h.block k hk⟩
theorem sjoin_any (w : World) (v : Value) (ps : List Tx) (hv : SlR RS (fun _ => False) v ps w) (h0 : ps ≠ []) (hn : ps.length ≤ 256) (hj : tot ps ≤ 4097) :
    Calls Try.prog 37 #[v, .string ⟨#[47]⟩] w fun e w' => e = .returned (.string (mk (jn ps))) ∧ Nw w w' := by
  obtain ⟨a, c, rfl, k1, k2, _⟩ := hv.form
  have hlen : 0 < ps.length := List.length_pos_iff.2 h0
  obtain ⟨g, o, rfl, _, hc0⟩ := rs_at hv 0 hlen
  have hcells : ∀ (j : Nat) x, (ps.map mk)[j]? = some x → w.cell? ⟨g, o + j, none⟩ = some (.string x) := by
    intro j x hx
    rw [List.getElem?_map, Option.map_eq_some_iff] at hx
    obtain ⟨p, hp, rfl⟩ := hx
    obtain ⟨hj, hpe⟩ := List.getElem?_eq_some_iff.1 hp
    obtain ⟨g', o', e', _, hc⟩ := rs_at hv j hj
    injection e' with e'
    injection e' with e1 e2 _
    subst e1 e2
    rw [hc, hpe]
  have hmm : (ps.map mk).map (·.data.toList) = ps := by
    rw [List.map_map]
    conv => rhs; rw [← List.map_id ps]
    apply List.map_congr_left
    intro p _
    exact mk_data p
  have hlj : (jn ps).length ≤ 4096 := by
    cases ps with
    | nil => exact absurd rfl h0
    | cons p r => have := jn_length p r; omega
  have hsep : (⟨#[47]⟩ : ByteArray).data.toList = [47] := rfl
  have := shelfJoin g o c (ps.map mk) ⟨#[47]⟩ w hcells (World.block_lt_of_cell? _ _ hc0) (by rw [List.length_map]; omega) (by rw [List.length_map]; exact k1) (by rw [hmm, hsep, join_jn]; omega)
  rw [hmm, hsep, join_jn, List.length_map] at this
  exact this.mono (fun e w' ⟨h1, h2⟩ => ⟨h1, nw_of h2⟩)
set_option maxHeartbeats 4000000 in
set_option maxRecDepth 100000 in
theorem pjoin_any (w : World) (v : Value) (ps : List Tx) (hv : SlR RS (fun _ => False) v ps w) (hb : ∀ p ∈ ps, p.length ≤ 140737488351232) (hn : ps.length ≤ 17592186044416) :
    Calls Try.prog 15 #[v] w fun e w' => e = .returned (.tuple #[.string (mk (joinF ps).1), .int .i64 ((ftF ps : Nat) : Int)]) ∧ Nw w w' := by
  obtain ⟨P, hP⟩ : ∃ P : Ending → World → Prop, P = fun e w' => e = .returned (.tuple #[.string (mk (joinF ps).1), .int .i64 ((ftF ps : Nat) : Int)]) ∧ Nw w w' := ⟨_, rfl⟩
  rw [← hP]
  have HC : Hid (Calls Try.prog 36 #[v] w fun e w' => e = .returned (.int .i64 ((ftF ps : Nat) : Int)) ∧ Hid (Nw w w')) := fault_any w v ps hv hb hn
  by_cases h : ftF ps = 0
  · have HJ : Hid (∀ V, Nw w V → Calls Try.prog 37 #[v, .string ⟨#[47]⟩] V fun e w' => e = .returned (.string (mk (jn ps))) ∧ Hid (Nw w w')) := fun V hV => by
      obtain ⟨h1, h2, h3, h4⟩ := (ft_zero ps).1 h
      exact (sjoin_any V v ps (hv.nw hV) h1 h3 h4).mono (fun e w' ⟨k1, k2⟩ => ⟨k1, hV.trans k2⟩)
    have HF : Hid (∀ V, Nw w V → P (.returned (.tuple #[.string (mk (jn ps)), .int .i64 0])) V) := fun V hV => by
      rw [hP]
      refine ⟨?_, hV⟩
      unfold joinF
      rw [if_pos h, h]; rfl
    rw [h] at HC
    obtain ⟨a, c, rfl, k1, k2, _⟩ := hv.form
    clear hP hv hb h
    generalize mk (jn ps) = s at *
    generalize ps.length = N at *
    go_enter Try.func15, Try.ntmps15
    go_wp2_with (first
      | (go_at_call 36; with_reducible refine HC.out.mono ?_; rintro e w1 ⟨rfl, H1⟩)
      | (go_at_call 37; with_reducible refine (HJ.out _ H1.out).mono ?_; rintro e w2 ⟨rfl, H2⟩))
    exact HF.out _ H2.out
  · have HF : Hid (∀ V, Nw w V → P (.returned (.tuple #[.string ⟨#[]⟩, .int .i64 ((ftF ps : Nat) : Int)])) V) := fun V hV => by
      rw [hP]
      refine ⟨?_, hV⟩
      unfold joinF
      rw [if_neg h]; rfl
    have hne : (((ftF ps : Nat) : Int) == 0) = false := by rw [beq_eq_false_iff_ne]; omega
    have hne2 : ¬ ((ftF ps : Nat) : Int) = 0 := by omega
    obtain ⟨a, c, rfl, k1, k2, _⟩ := hv.form
    clear hP hv hb h
    generalize ftF ps = y at *
    generalize ps.length = N at *
    go_enter Try.func15, Try.ntmps15
    go_wp2_with (first
      | (go_at_call 36; with_reducible refine HC.out.mono ?_; rintro e w1 ⟨rfl, H1⟩))
    exact HF.out _ H1.out
theorem jn_snoc (ps : List Tx) (h : ps ≠ []) (p : Tx) : jn (ps ++ [p]) = jn ps ++ 47 :: p := by
  induction ps with
  | nil => exact absurd rfl h
  | cons q r ih =>
    cases r with
    | nil => rfl
    | cons x r =>
      rw [List.cons_append]
      show q ++ 47 :: jn ((x :: r) ++ [p]) = _
      rw [ih (by simp), jn]
      simp
theorem mk_app (l m : Tx) : mk l ++ mk m = mk (l ++ m) := by
  apply ByteArray.ext
  simp [mk]
theorem jn_take (ps : List Tx) (I : Nat) (h0 : 0 < I) (hI : I < ps.length) : jn (ps.take (I + 1)) = jn (ps.take I) ++ 47 :: ps[I] := by
  rw [List.take_add_one, List.getElem?_eq_getElem hI, Option.toList_some, jn_snoc]
  intro e
  have h : (ps.take I).length = 0 := by rw [e]; rfl
  rw [List.length_take] at h
  omega
theorem jn_len_le (ps : List Tx) : (jn ps).length ≤ tot ps := by
  cases ps with
  | nil => simp [jn]
  | cons p r => have := jn_length p r; omega
theorem tot_small (ps : List Tx) (h : ∀ p ∈ ps, p.length ≤ 255) : tot ps ≤ 256 * ps.length := by
  induction ps with
  | nil => simp [tot]
  | cons p r ih =>
    have h1 := h p (by simp)
    have h2 := ih (fun q hq => h q (by simp [hq]))
    rw [tot, List.length_cons]
    omega
set_option maxHeartbeats 8000000 in
set_option maxRecDepth 100000 in
theorem qjoin_any (w : World) (v : Value) (ps : List Tx) (hv : SlR RS (fun _ => False) v ps w) (hb : ∀ p ∈ ps, p.length ≤ 140737488351232) (hn : ps.length ≤ 17592186044416) :
    Calls Try.prog 16 #[v] w fun e w' => e = .returned (.tuple #[.string (mk (joinF ps).1), .int .i64 ((ftF ps : Nat) : Int)]) ∧ Nw w w' := by
  obtain ⟨P, hP⟩ : ∃ P : Ending → World → Prop, P = fun e w' => e = .returned (.tuple #[.string (mk (joinF ps).1), .int .i64 ((ftF ps : Nat) : Int)]) ∧ Nw w w' := ⟨_, rfl⟩
  rw [← hP]
  have HBAD : Hid (∀ (z : Int) V, ((ftF ps : Nat) : Int) = z → z ≠ 0 → Nw w V → P (.returned (.tuple #[.string ⟨#[]⟩, .int .i64 z])) V) := fun z V hz h0 hV => by
    rw [hP]
    refine ⟨?_, hV⟩
    unfold joinF
    rw [if_neg (by omega), hz]; rfl
  have HOK : Hid (∀ V, ftF ps = 0 → Nw w V → P (.returned (.tuple #[.string (mk (jn ps)), .int .i64 0])) V) := fun V hz hV => by
    rw [hP]
    refine ⟨?_, hV⟩
    unfold joinF
    rw [if_pos hz, hz]; rfl
  obtain ⟨a, c, rfl, k1, k2, _⟩ := hv.form
  have HI1 : Hid (SlR RS (fun _ => False) (.slice a ps.length c) ps w) := hv
  have HB : Hid (∀ p ∈ ps, p.length ≤ 140737488351232) := hb
  clear hP hv hb
  by_cases h0 : ps = []
  · have HF1 : Hid (P (.returned (.tuple #[.string ⟨#[]⟩, .int .i64 90])) w) := HBAD.out 90 w (by unfold ftF; rw [if_pos h0]; rfl) (by decide) (Fr.refl _ _)
    subst h0
    clear HBAD HOK HI1 HB
    show Calls _ _ #[.slice a 0 c] _ _
    go_enter Try.func16, Try.ntmps16
    go_wp2_with fail
    exact HF1.out
  have hlen : 0 < ps.length := List.length_pos_iff.2 h0
  obtain ⟨N, hN⟩ : ∃ N, N = ps.length := ⟨_, rfl⟩
  have HN : Hid (N = ps.length ∧ ps ≠ []) := ⟨hN, h0⟩
  rw [← hN] at HI1 k1 hn hlen ⊢
  clear hN h0
  have hn0 : ¬ (N : Int) = 0 := by omega
  have hnb : ((N : Int) == 0) = false := beq_eq_false_iff_ne.2 hn0
  go_enter Try.func16, Try.ntmps16
  go_wp2
  go_loopg [4] N (fun kx i wr => ∃ (I : Nat), I ≤ N ∧ N - I ≤ kx ∧ i = .int .i64 I ∧ Hid (Nw w wr ∧ ∀ p ∈ ps.take I, ptF p = 0))
  case atStart => exact ⟨0, by omega, by omega, rfl, Fr.refl _ _, fun p hp => by simp at hp⟩
  case round =>
    obtain ⟨I, hI, hkx, rfl, HI⟩ := hrel
    obtain ⟨hNw, hZ⟩ := HI.out
    have hNl := HN.out.1
    by_cases hlt : I < N
    · have hlt' : I < ps.length := by omega
      obtain ⟨g1, o1, rfl, _, hcell1⟩ := rs_at (HI1.out.nw hNw) I hlt'
      have HC := tHid (part_any ps[I] wr (HB.out _ (List.getElem_mem hlt')))
      by_cases hp : ptF ps[I] = 0
      · have HI2 := tHid (And.intro hNw (take_snoc_mem hlt' hZ hp))
        rw [hp] at HC
        clear HI HBAD HOK HN hNw hZ HI1 HB hNl hp
        generalize mk ps[I] = x at *
        go_wp2_with (first | (go_at_call 38; with_reducible refine HC.out.mono ?_; rintro e w1 ⟨rfl, hw⟩; (subst hw)))
        go_roundg (N - (I + 1))
        case measure => omega
        case rel => exact ⟨I + 1, by omega, by omega, by first | rfl | (congr 1), HI2⟩
      · have HF1 : Hid (P (.returned (.tuple #[.string ⟨#[]⟩, .int .i64 ((ptF ps[I] : Nat) : Int)])) wr) := HBAD.out _ wr (by rw [ft_bad hlt' hZ hp]) (by omega) hNw
        have hne : (((ptF ps[I] : Nat) : Int) == 0) = false := by rw [beq_eq_false_iff_ne]; omega
        have hne2 : ¬ ((ptF ps[I] : Nat) : Int) = 0 := by omega
        clear HI HBAD HOK HN hNw hZ HI1 HB hNl hp
        generalize mk ps[I] = x at *
        generalize ptF ps[I] = y at *
        go_wp2_with (first | (go_at_call 38; with_reducible refine HC.out.mono ?_; rintro e w1 ⟨rfl, hw⟩; (subst hw)))
        exact HF1.out
    · rw [List.take_of_length_le (by omega)] at hZ
      have hpz := (ptsF_zero ps).2 hZ
      have hE : ftF ps = if 256 < ps.length then 95 else if 4096 + 1 < tot ps then 2 else 0 := by unfold ftF; rw [if_neg HN.out.2, if_pos hpz]
      by_cases b6 : 256 < N
      · rw [if_pos (by omega)] at hE
        have HF1 := tHid (HBAD.out 95 wr (by rw [hE]; rfl) (by decide) hNw)
        have y1 : (256 : Int) < (N : Int) := by omega
        clear HI HBAD HOK HN hNw hZ HI1 HB hNl hpz hE
        go_wp2_with fail
        exact HF1.out
      · rw [if_neg (by omega)] at hE
        have y1 : ¬ (256 : Int) < (N : Int) := by omega
        have hlt' : 0 < ps.length := by omega
        obtain ⟨g1, o1, rfl, _, hcell1⟩ := rs_at (HI1.out.nw hNw) 0 hlt'
        rw [Nat.add_zero] at hcell1
        have HE := tHid hE
        have HZ := tHid hZ
        have HNW := tHid hNw
        have hb256 : N ≤ 256 := by omega
        have HP0 : Hid (mk ps[0] = mk (jn (ps.take 1))) := by
          show _ = _
          congr 1
          cases ps with
          | nil => simp at hlt'
          | cons p r => rfl
        rw [HP0.out] at hcell1
        clear HI hNw hZ hpz hE hNl HP0 y1 b6
        have y1 : ¬ (256 : Int) < (N : Int) := by omega
        go_wp2_with fail
        go_loopg [6, 7] N (fun kx s i wq => ∃ (J : Nat), J ≤ N ∧ 1 ≤ J ∧ N - J ≤ kx ∧ s = .string (mk (jn (ps.take J))) ∧ i = .int .i64 J ∧ wq = wr)
        case atStart => exact ⟨1, by omega, by omega, by omega, rfl, rfl, rfl⟩
        case round =>
          obtain ⟨J, hJ, hJ1, hkx2, rfl, rfl, rfl⟩ := hrel
          have hNl := HN.out.1
          by_cases hlt : J < N
          · have hltJ : J < ps.length := by omega
            obtain ⟨g2, o2, e', _, hcell2⟩ := rs_at (HI1.out.nw HNW.out) J hltJ
            injection e' with e'
            injection e' with e1 e2 _
            subst e1 e2
            have hs1 : mk (jn (ps.take J)) ++ (⟨#[47]⟩ : ByteArray) ++ mk ps[J] = mk (jn (ps.take (J + 1))) := by
              rw [jn_take ps J hJ1 hltJ]
              show mk (jn (ps.take J)) ++ mk [47] ++ mk ps[J] = _
              rw [mk_app, mk_app]; simp
            have hz1 := mk_size (jn (ps.take J))
            have hz2 := mk_size ps[J]
            have q1 := jn_len_le (ps.take J)
            have q2 : tot (ps.take J) ≤ 256 * J := Nat.le_trans (tot_small (ps.take J) (fun p hp => ((ptF_zero p).1 (HZ.out p (List.mem_of_mem_take hp))).2.2.2.2)) (by rw [List.length_take]; omega)
            have q3 := ((ptF_zero _).1 (HZ.out _ (List.getElem_mem hltJ))).2.2.2.2
            have y3 : (mk (jn (ps.take J))).size ≤ 65536 := by omega
            have y4 : (mk ps[J]).size ≤ 255 := by omega
            clear HBAD HOK HN HI1 HB HE HZ HNW hNl hz1 hz2 q1 q2 q3 hcell1
            obtain ⟨s2, hs2⟩ : ∃ s2, mk (jn (ps.take (J + 1))) = s2 := ⟨_, rfl⟩
            rw [hs2] at hs1
            have HS2 := tHid hs2
            clear hs2
            generalize mk (jn (ps.take J)) = s1 at *
            generalize mk ps[J] = x at *
            go_wp2_with fail
            go_roundg (N - (J + 1))
            case measure => omega
            case rel => exact ⟨J + 1, by omega, by omega, by omega, by rw [HS2.out], by first | rfl | (congr 1), rfl⟩
          · have hall : ps.take J = ps := List.take_of_length_le (by omega)
            have hz1 := mk_size (jn ps)
            have htl : (jn ps).length + 1 = tot ps := by
              cases ps with
              | nil => exact absurd rfl HN.out.2
              | cons p r => exact jn_length p r
            have q2 : tot ps ≤ 256 * N := Nat.le_trans (tot_small ps (fun p hp => ((ptF_zero p).1 (HZ.out p hp)).2.2.2.2)) (by omega)
            have hE := HE.out
            by_cases b7 : 4096 < (jn ps).length
            · rw [if_pos (by omega)] at hE
              have HF1 := tHid (HBAD.out 2 _ (by rw [hE]; rfl) (by decide) HNW.out)
              have y2 : (4096 : Int) < ((mk (jn ps)).size : Int) := by omega
              have y3 : (mk (jn ps)).size ≤ 65536 := by omega
              rw [hall]
              clear HBAD HOK HN HI1 HB HE HZ HNW hNl hz1 q2 hE htl hall b7 hcell1
              generalize mk (jn ps) = s1 at *
              go_wp2_with fail
              exact HF1.out
            · rw [if_neg (by omega)] at hE
              have HF1 := tHid (HOK.out _ hE HNW.out)
              have y2 : ¬ (4096 : Int) < ((mk (jn ps)).size : Int) := by omega
              have y3 : (mk (jn ps)).size ≤ 65536 := by omega
              rw [hall]
              clear HBAD HOK HN HI1 HB HE HZ HNW hNl hz1 q2 hE htl hall b7 hcell1
              generalize mk (jn ps) = s1 at *
              go_wp2_with fail
              exact HF1.out
end Go.Proofs.Ytfmghmidklpdaaa

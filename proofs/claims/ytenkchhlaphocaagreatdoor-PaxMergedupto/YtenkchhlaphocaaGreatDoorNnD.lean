import Derived.Test.YtenkchhlaphocaaGreatDoorNnC
namespace Go.Proofs.YtenkchhlaphocaaGreatDoor
open Go.RowKit
set_option linter.unusedVariables false
/-! ### PaxMerged's walk -/
theorem merge_keys {b a : List Pr} {B : Nat} (h : ∀ x ∈ b ++ a, x.1.length ≤ B) : ∀ x ∈ mergeV b a, x.1.length ≤ B := fun x hx => by
  have h1 := (mem_merge b a x).1 hx
  exact h (x.1, x.2) (fnd_mem (b ++ a) x.1 x.2 h1.1)
theorem merge_len14 (b a : List Pr) : (mergeV b a).length ≤ b.length + a.length := by
  have h : ∀ (r out : List Pr), (mrg r out).length ≤ r.length + out.length := fun r => by
    induction r with
    | nil => intro out; simp [mrg]
    | cons x r ih =>
      intro out
      rw [mrg]
      split
      · have := ih (insP x out)
        rw [insP_len] at this
        simp only [List.length_cons]; omega
      · have := ih out
        simp only [List.length_cons]; omega
  have := h (b ++ a) []
  rw [List.length_append, List.length_nil] at this
  unfold mergeV
  omega
theorem wpr_len14 (l : List Pr) : l.length ≤ wpr l := by
  induction l with
  | nil => simp [wpr]
  | cons x r ih =>
    unfold wpr at ih ⊢
    rw [List.map_cons, List.sum_cons, List.length_cons]
    unfold wp1 at ih ⊢
    omega
theorem wpr_mem14 {l : List Pr} {x : Pr} (h : x ∈ l) : x.1.length + x.2.length ≤ wpr l := by
  induction l with
  | nil => cases h
  | cons y r ih =>
    unfold wpr at ih ⊢
    rw [List.map_cons, List.sum_cons]
    rcases List.mem_cons.1 h with rfl | h
    · unfold wp1; omega
    · have := ih h; omega
/-- What is found in what was merged. -/
theorem fnd_mg (a b : List Pr) (k : Bs) : fndV (mergeV a b) k = match (fndV b k).or (fndV a k) with | some v => if v = [] then none else some v | none => none := by
  cases ho : (fndV b k).or (fndV a k) with
  | none =>
    cases hf : fndV (mergeV a b) k with
    | none => rfl
    | some v => have := (fnd_merge a b k v).1 hf; rw [ho] at this; cases this.1
  | some v =>
    simp only
    by_cases hv : v = []
    · rw [if_pos hv]
      cases hf : fndV (mergeV a b) k with
      | none => rfl
      | some u =>
        have := (fnd_merge a b k u).1 hf
        rw [ho] at this
        injection this.1 with e
        exact absurd (e ▸ hv) this.2
    · rw [if_neg hv]
      exact (fnd_merge a b k v).2 ⟨ho, hv⟩
set_option maxHeartbeats 16000000 in
set_option maxRecDepth 100000 in
theorem merged_walk (w : World) (hE : Env w) (x0 : Option Addr) (n0 c0 : Nat) (a : List Pr) (ha : SlR RP (fun _ => False) (.slice x0 n0 c0) a w) (haw : wpr a ≤ 1048576) (x1 : Option Addr) (n1 c1 : Nat) (b : List Pr) (hb : SlR RP (fun _ => False) (.slice x1 n1 c1) b w) (hbw : wpr b ≤ 1048576) (x2 : Option Addr) (n2 c2 : Nat) (c : List Pr) (hc : SlR RP (fun _ => False) (.slice x2 n2 c2) c w) (hcw : wpr c ≤ 1048576) (k : Bs) :
    Calls Tryz.prog 3 #[.slice x0 n0 c0, .slice x1 n1 c1, .slice x2 n2 c2, .string (str k)] w fun e w' => e = .returned (.bool true) ∧ Nw w w' := by
  obtain ⟨P, hP⟩ : ∃ P : Ending → World → Prop, P = fun e w' => e = .returned (.bool true) ∧ Nw w w' := ⟨_, rfl⟩
  rw [← hP]
  have HF : Hid (∀ V, Nw w V → P (.returned (.bool true)) V) := fun V hV => by rw [hP]; exact ⟨rfl, hV⟩
  clear hP
  have hla := wpr_len14 a
  have hlb := wpr_len14 b
  have hlc := wpr_len14 c
  have hka : ∀ x ∈ a, x.1.length ≤ 140737488351232 := fun x hx => by have := wpr_mem14 hx; omega
  have hkb : ∀ x ∈ b, x.1.length ≤ 140737488351232 := fun x hx => by have := wpr_mem14 hx; omega
  have hkc : ∀ x ∈ c, x.1.length ≤ 140737488351232 := fun x hx => by have := wpr_mem14 hx; omega
  have kapp : ∀ l m : List Pr, (∀ x ∈ l, x.1.length ≤ 140737488351232) → (∀ x ∈ m, x.1.length ≤ 140737488351232) → ∀ x ∈ l ++ m, x.1.length ≤ 140737488351232 := fun l m h1 h2 x hx => by
    rcases List.mem_append.1 hx with h | h
    · exact h1 x h
    · exact h2 x h
  have hmab := merge_len14 a b
  have hmbc := merge_len14 b c
  have HMG : Hid (∀ V va vb (l m : List Pr), SlR RP (fun _ => False) va l V → SlR RP (fun _ => False) vb m V → l.length + m.length ≤ 10000000 → (∀ x ∈ l ++ m, x.1.length ≤ 140737488351232) → Calls Tryz.prog 7 #[va, vb] V fun e W => ∃ v, e = .returned v ∧ Hid (Nw V W ∧ SlR RP (fun _ => False) v (mergeV l m) W)) := fun V va vb l m h1 h2 h3 h4 => by
    refine (merge_any V va vb l m h1 h2 h3 h4).mono ?_
    rintro e W ⟨v, rfl, H⟩
    obtain ⟨og, h5, _⟩ := H.out.2
    exact ⟨v, rfl, H.out.1, (h5.slr rpOk).anyP⟩
  have HBC : Hid (∀ V, Nw w V → Calls Tryz.prog 7 #[.slice x1 n1 c1, .slice x2 n2 c2] V fun e W => ∃ v, e = .returned v ∧ Hid (Nw V W ∧ SlR RP (fun _ => False) v (mergeV b c) W)) := fun V hV => HMG.out V _ _ b c (hb.nw hV) (hc.nw hV) (by omega) (kapp _ _ hkb hkc)
  have HA_BC : Hid (∀ V v, Nw w V → SlR RP (fun _ => False) v (mergeV b c) V → Calls Tryz.prog 7 #[.slice x0 n0 c0, v] V fun e W => ∃ v, e = .returned v ∧ Hid (Nw V W ∧ SlR RP (fun _ => False) v (mergeV a (mergeV b c)) W)) := fun V v hV h => HMG.out V _ _ a _ (ha.nw hV) h (by omega) (kapp _ _ hka (merge_keys (kapp _ _ hkb hkc)))
  have HAB : Hid (∀ V, Nw w V → Calls Tryz.prog 7 #[.slice x0 n0 c0, .slice x1 n1 c1] V fun e W => ∃ v, e = .returned v ∧ Hid (Nw V W ∧ SlR RP (fun _ => False) v (mergeV a b) W)) := fun V hV => HMG.out V _ _ a b (ha.nw hV) (hb.nw hV) (by omega) (kapp _ _ hka hkb)
  have HAB_C : Hid (∀ V v, Nw w V → SlR RP (fun _ => False) v (mergeV a b) V → Calls Tryz.prog 7 #[v, .slice x2 n2 c2] V fun e W => ∃ v, e = .returned v ∧ Hid (Nw V W ∧ SlR RP (fun _ => False) v (mergeV (mergeV a b) c) W)) := fun V v hV h => HMG.out V _ _ _ c h (hc.nw hV) (by omega) (kapp _ _ (merge_keys (kapp _ _ hka hkb)) hkc)
  have HFB : Hid (∀ V, Nw w V → Calls Tryz.prog 5 #[.slice x1 n1 c1] V fun e W => e = .returned (.bool (decide (fullV b))) ∧ Hid (Nw V W)) := fun V hV => full_any14 V _ b (hb.nw hV) (by omega)
  have HFC : Hid (∀ V, Nw w V → Calls Tryz.prog 5 #[.slice x2 n2 c2] V fun e W => e = .returned (.bool (decide (fullV c))) ∧ Hid (Nw V W)) := fun V hV => full_any14 V _ c (hc.nw hV) (by omega)
  have HSM : Hid (∀ V va vb, fullV b → fullV c → SlR RP (fun _ => False) va (mergeV a (mergeV b c)) V → SlR RP (fun _ => False) vb (mergeV (mergeV a b) c) V → Calls Tryz.prog 6 #[va, vb] V fun e W => e = .returned (.bool true) ∧ Hid (Nw V W)) := fun V va vb f1 f2 h1 h2 => by
    have := same_any V va vb _ _ h1 h2
    rw [merge_assoc a b c f1 f2, decide_eq_true rfl] at this
    exact this
  have HLV := tHid (lives_any w hE)
  have HFM : Hid (∀ V va, SlR RP (fun _ => False) va (mergeV a b) V → Calls Tryz.prog 5 #[va] V fun e W => e = .returned (.bool true) ∧ Hid (Nw V W)) := fun V va h => by
    have := full_any14 V va _ h (by omega)
    rw [decide_eq_true (merge_full a b)] at this
    exact this
  have HFND : Hid (∀ V va (l : List Pr), SlR RP (fun _ => False) va l V → l.length ≤ 10000000 → Calls Tryz.prog 8 #[va, .string (str k)] V fun e W => e = .returned (.tuple #[.string (str ((fndV l k).getD [])), .bool (fndV l k).isSome]) ∧ Hid (Nw V W)) := fun V va l h hn => by
    have := find_any V va l k h (by omega)
    have hfd : fdV (fndV l k) = .tuple #[.string (str ((fndV l k).getD [])), .bool (fndV l k).isSome] := by
      cases fndV l k
      · rfl
      · rfl
    rw [hfd] at this
    exact this
  have HA := tHid ha
  have HB := tHid hb
  have HRI := tHid (merge_rise a b)
  have hML : (mergeV a b).length ≤ 10000000 := by omega
  clear ha hb hc hka hkb hkc kapp HMG hE
  go_enter Tryz.func3, Tryz.ntmps3
  go_upto_region 3 with (first | (go_at_call 4; with_reducible refine HLV.out.mono ?_; rintro e w1 ⟨rfl, H1⟩; have H1 := tHid H1))
  go_cut [36] (fun v36 W' => v36 = .bool false ∧ Hid (Nw w W'))
  case first =>
    by_cases hfb : fullV b
    · rw [decide_eq_true hfb] at HFB
      by_cases hfc : fullV c
      · rw [decide_eq_true hfc] at HFC
        have HSM2 : Hid (∀ V va vb, SlR RP (fun _ => False) va (mergeV a (mergeV b c)) V → SlR RP (fun _ => False) vb (mergeV (mergeV a b) c) V → Calls Tryz.prog 6 #[va, vb] V fun e W => e = .returned (.bool true) ∧ Hid (Nw V W)) := fun V va vb h1 h2 => HSM.out V va vb hfb hfc h1 h2
        clear HSM HFM HFND HRI
        go_wp2_with (first
          | (go_at_call 5; with_reducible refine (HFB.out _ H1.out).mono ?_; rintro e w2 ⟨rfl, H2⟩; have N2 := tHid (H1.out.trans H2.out))
          | (go_at_call 5; with_reducible refine (HFC.out _ N2.out).mono ?_; rintro e w3 ⟨rfl, H3⟩; have N3 := tHid (N2.out.trans H3.out))
          | (go_at_call 7; with_reducible refine (HBC.out _ N3.out).mono ?_; rintro e w4 ⟨v4, rfl, H4⟩; have N4 := tHid (N3.out.trans H4.out.1))
          | (go_at_call 7; with_reducible refine (HA_BC.out _ _ N4.out H4.out.2).mono ?_; rintro e w5 ⟨v5, rfl, H5⟩; have N5 := tHid (N4.out.trans H5.out.1))
          | (go_at_call 7; with_reducible refine (HAB.out _ N5.out).mono ?_; rintro e w6 ⟨v6, rfl, H6⟩; have N6 := tHid (N5.out.trans H6.out.1))
          | (go_at_call 7; with_reducible refine (HAB_C.out _ _ N6.out H6.out.2).mono ?_; rintro e w7 ⟨v7, rfl, H7⟩; have N7 := tHid (N6.out.trans H7.out.1))
          | (go_at_call 6; with_reducible refine (HSM2.out _ _ _ (H5.out.2.nw (H6.out.1.trans H7.out.1)) H7.out.2).mono ?_; rintro e w8 ⟨rfl, H8⟩; have N8 := tHid (N7.out.trans H8.out)))
        go_meet
        exact ⟨rfl, N8⟩
      · rw [decide_eq_false hfc] at HFC
        go_wp2_with (first
          | (go_at_call 5; with_reducible refine (HFB.out _ H1.out).mono ?_; rintro e w2 ⟨rfl, H2⟩; have N2 := tHid (H1.out.trans H2.out))
          | (go_at_call 5; with_reducible refine (HFC.out _ N2.out).mono ?_; rintro e w3 ⟨rfl, H3⟩; have N3 := tHid (N2.out.trans H3.out)))
        go_meet
        exact ⟨rfl, N3⟩
    · rw [decide_eq_false hfb] at HFB
      go_wp2_with (first
        | (go_at_call 5; with_reducible refine (HFB.out _ H1.out).mono ?_; rintro e w2 ⟨rfl, H2⟩; have N2 := tHid (H1.out.trans H2.out)))
      go_meet
      exact ⟨rfl, N2⟩
  case rest =>
    obtain ⟨rfl, HW2⟩ := hcut
    obtain ⟨wA, hwA⟩ : ∃ z, z = wc := ⟨_, rfl⟩
    subst hwA
    clear HBC HA_BC HAB_C HFB HFC HSM HLV H1
    have HMM := tHid (HAB.out wA HW2.out)
    clear HAB
    go_upto_region 6 with (first
      | (go_at_call 7; with_reducible refine HMM.out.mono ?_; rintro e w2 ⟨v2, rfl, H2⟩))
    obtain ⟨a9, c9, rfl, m1, m2, _⟩ := H2.out.2.form
    have HN2 := tHid (HW2.out.trans H2.out.1)
    have HSL := tHid H2.out.2
    obtain ⟨M, hM⟩ : ∃ M, mergeV a b = M := ⟨_, rfl⟩
    have hfm := fnd_mg a b k
    rw [hM] at HSL HRI HFM hfm hML m1 ⊢
    clear H2 HMM HW2 hM hmab hmbc
    go_wp2_with fail
    go_loopg [10] (M.length + 1) (fun kx i wr => ∃ I : Nat, 1 ≤ I ∧ M.length - I + 1 ≤ kx ∧ i = .int .i64 (I : Int) ∧ Hid (Nw w2 wr))
    case atStart => exact ⟨1, by omega, by omega, rfl, Fr.refl _ _⟩
    case round =>
      obtain ⟨I, hI, hkx, rfl, HI⟩ := hrel
      by_cases hlt : I < M.length
      · have hlti : (I : Int) < (M.length : Int) := by omega
        obtain ⟨J, rfl⟩ : ∃ J, I = J + 1 := ⟨I - 1, by omega⟩
        obtain ⟨g, o, rfl, _, y0, y1⟩ := rp_at (HSL.out.nw HI.out) (J + 1) hlt
        obtain ⟨g', o', e', _, z0, z1⟩ := rp_at (HSL.out.nw HI.out) J (by omega)
        injection e' with e'
        injection e' with e1 e2
        subst e1 e2
        have hrs := (List.pairwise_iff_getElem.1 HRI.out) J (J + 1) (by omega) hlt (by omega)
        have hb1 : Op.bytesLess (str (M[J + 1]'hlt).1).toList (str (M[J]'(by omega)).1).toList = false := by
          rw [less_lt]
          exact decide_eq_false (fun h => lt_ir _ (lt_tr hrs h))
        have hb2 : ((str (M[J + 1]'hlt).1).toList == (str (M[J]'(by omega)).1).toList) = false := by
          rw [beq_eq_false_iff_ne]
          intro e
          rw [e] at hrs
          exact lt_ir _ hrs
        generalize str (M[J + 1]'hlt).1 = s1 at *
        generalize str (M[J]'(by omega)).1 = s2 at *
        obtain ⟨K, hK⟩ : ∃ K, J + 1 = K := ⟨_, rfl⟩
        rw [hK] at hlti y0
        have hKi : (K : Int) - 1 = (J : Int) := by omega
        have hJl : (J : Int) < (M.length : Int) := by omega
        rw [hK]
        have HNX : Hid (Nw w2 wr) := HI
        clear HI hrs hK HRI HFM HFND hfm HA HB y1 z1
        go_upto_region 9 with fail
        go_quiet (fail)
        go_wp2_with fail
        go_roundg (M.length - (K + 1) + 1)
        case measure => omega
        case rel => exact ⟨K + 1, by omega, by omega, by first | rfl | simp, HNX.out.trans ((Fr.refl _ _).drewN _)⟩
      · have hlti : ¬ (I : Int) < (M.length : Int) := by omega
        have HF1 := tHid (HFND.out wr _ M (HSL.out.nw HI.out) hML)
        have HF2 : Hid (∀ V, Nw wr V → Calls Tryz.prog 8 #[.slice x1 n1 c1, .string (str k)] V fun e W => e = .returned (.tuple #[.string (str ((fndV b k).getD [])), .bool (fndV b k).isSome]) ∧ Hid (Nw V W)) := fun V hV => HFND.out V _ b (HB.out.nw ((HN2.out.trans HI.out).trans hV)) (by omega)
        have HF3 : Hid (∀ V, Nw wr V → Calls Tryz.prog 8 #[.slice x0 n0 c0, .string (str k)] V fun e W => e = .returned (.tuple #[.string (str ((fndV a k).getD [])), .bool (fndV a k).isSome]) ∧ Hid (Nw V W)) := fun V hV => HFND.out V _ a (HA.out.nw ((HN2.out.trans HI.out).trans hV)) (by omega)
        have HF4 : Hid (∀ V, Nw wr V → Calls Tryz.prog 5 #[.slice a9 M.length c9] V fun e W => e = .returned (.bool true) ∧ Hid (Nw V W)) := fun V hV => HFM.out V _ (HSL.out.nw (HI.out.trans hV))
        have HEN : Hid (∀ V, Nw wr V → P (.returned (.bool true)) V) := fun V hV => HF.out V ((HN2.out.trans HI.out).trans hV)
        clear HFND HFM HI HRI HA HB HSL HF
        have nn : ((str ([] : Bs)).toList == (str ([] : Bs)).toList) = true := by simp
        have ne := str_emp2 ([] : Bs)
        rw [decide_eq_true rfl] at ne
        cases hfb : fndV b k with
        | some v =>
          rw [hfb] at hfm HF2
          simp only [Option.some_or] at hfm
          simp only [Option.getD_some, Option.isSome_some] at HF2
          have ve := str_emp2 v
          by_cases hv : v = []
          · rw [if_pos hv] at hfm
            rw [decide_eq_true hv] at ve
            rw [hfm] at HF1
            simp only [Option.getD_none, Option.isSome_none] at HF1
            subst hv
            clear hfm hfb
            generalize str ([] : Bs) = S0 at *
            generalize str k = sk at *
            go_wp2_with (first
              | (go_at_call 8; with_reducible refine HF1.out.mono ?_; rintro e w3 ⟨rfl, H3⟩)
              | (go_at_call 8; with_reducible refine (HF2.out _ H3.out).mono ?_; rintro e w4 ⟨rfl, H4⟩; have N4 := tHid (H3.out.trans H4.out))
              | (go_at_call 5; with_reducible refine (HF4.out _ N4.out).mono ?_; rintro e w5 ⟨rfl, H5⟩; have N5 := tHid (N4.out.trans H5.out)))
            have HE5 := tHid (HEN.out _ N5.out)
            first | exact HE5.out | (go_ret; exact HE5.out)
          · rw [if_neg hv] at hfm
            rw [decide_eq_false hv] at ve
            rw [hfm] at HF1
            simp only [Option.getD_some, Option.isSome_some] at HF1
            have vv : ((str v).toList == (str v).toList) = true := by simp
            clear hfm hfb
            generalize str v = S1 at *
            generalize str k = sk at *
            go_wp2_with (first
              | (go_at_call 8; with_reducible refine HF1.out.mono ?_; rintro e w3 ⟨rfl, H3⟩)
              | (go_at_call 8; with_reducible refine (HF2.out _ H3.out).mono ?_; rintro e w4 ⟨rfl, H4⟩; have N4 := tHid (H3.out.trans H4.out))
              | (go_at_call 5; with_reducible refine (HF4.out _ N4.out).mono ?_; rintro e w5 ⟨rfl, H5⟩; have N5 := tHid (N4.out.trans H5.out)))
            have HE5 := tHid (HEN.out _ N5.out)
            first | exact HE5.out | (go_ret; exact HE5.out)
        | none =>
          rw [hfb] at hfm HF2
          simp only [Option.none_or] at hfm
          simp only [Option.getD_none, Option.isSome_none] at HF2
          cases hfa : fndV a k with
          | some v =>
            rw [hfa] at hfm HF3
            simp only at hfm
            simp only [Option.getD_some, Option.isSome_some] at HF3
            have ve := str_emp2 v
            by_cases hv : v = []
            · rw [if_pos hv] at hfm
              rw [decide_eq_true hv] at ve
              rw [hfm] at HF1
              simp only [Option.getD_none, Option.isSome_none] at HF1
              subst hv
              clear hfm hfb hfa
              generalize str ([] : Bs) = S0 at *
              generalize str k = sk at *
              go_wp2_with (first
                | (go_at_call 8; with_reducible refine HF1.out.mono ?_; rintro e w3 ⟨rfl, H3⟩)
                | (go_at_call 8; with_reducible refine (HF2.out _ H3.out).mono ?_; rintro e w4 ⟨rfl, H4⟩; have N4 := tHid (H3.out.trans H4.out))
                | (go_at_call 8; with_reducible refine (HF3.out _ N4.out).mono ?_; rintro e w5 ⟨rfl, H5⟩; have N5 := tHid (N4.out.trans H5.out))
                | (go_at_call 5; with_reducible refine (HF4.out _ N5.out).mono ?_; rintro e w6 ⟨rfl, H6⟩; have N6 := tHid (N5.out.trans H6.out)))
              have HE5 := tHid (HEN.out _ N6.out)
              first | exact HE5.out | (go_ret; exact HE5.out)
            · rw [if_neg hv] at hfm
              rw [decide_eq_false hv] at ve
              rw [hfm] at HF1
              simp only [Option.getD_some, Option.isSome_some] at HF1
              have vv : ((str v).toList == (str v).toList) = true := by simp
              clear hfm hfb hfa
              generalize str v = S1 at *
              generalize str ([] : Bs) = S0 at *
              generalize str k = sk at *
              go_wp2_with (first
                | (go_at_call 8; with_reducible refine HF1.out.mono ?_; rintro e w3 ⟨rfl, H3⟩)
                | (go_at_call 8; with_reducible refine (HF2.out _ H3.out).mono ?_; rintro e w4 ⟨rfl, H4⟩; have N4 := tHid (H3.out.trans H4.out))
                | (go_at_call 8; with_reducible refine (HF3.out _ N4.out).mono ?_; rintro e w5 ⟨rfl, H5⟩; have N5 := tHid (N4.out.trans H5.out))
                | (go_at_call 5; with_reducible refine (HF4.out _ N5.out).mono ?_; rintro e w6 ⟨rfl, H6⟩; have N6 := tHid (N5.out.trans H6.out)))
              have HE5 := tHid (HEN.out _ N6.out)
              first | exact HE5.out | (go_ret; exact HE5.out)
          | none =>
            rw [hfa] at hfm HF3
            simp only at hfm
            simp only [Option.getD_none, Option.isSome_none] at HF3
            rw [hfm] at HF1
            simp only [Option.getD_none, Option.isSome_none] at HF1
            clear hfm hfb hfa
            generalize str ([] : Bs) = S0 at *
            generalize str k = sk at *
            go_wp2_with (first
              | (go_at_call 8; with_reducible refine HF1.out.mono ?_; rintro e w3 ⟨rfl, H3⟩)
              | (go_at_call 8; with_reducible refine (HF2.out _ H3.out).mono ?_; rintro e w4 ⟨rfl, H4⟩; have N4 := tHid (H3.out.trans H4.out))
              | (go_at_call 8; with_reducible refine (HF3.out _ N4.out).mono ?_; rintro e w5 ⟨rfl, H5⟩; have N5 := tHid (N4.out.trans H5.out))
              | (go_at_call 5; with_reducible refine (HF4.out _ N5.out).mono ?_; rintro e w6 ⟨rfl, H6⟩; have N6 := tHid (N5.out.trans H6.out)))
            have HE5 := tHid (HEN.out _ N6.out)
            first | exact HE5.out | (go_ret; exact HE5.out)
end Go.Proofs.YtenkchhlaphocaaGreatDoor

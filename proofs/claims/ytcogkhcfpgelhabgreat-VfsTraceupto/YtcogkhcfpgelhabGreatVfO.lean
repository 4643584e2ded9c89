import Derived.Test.YtcogkhcfpgelhabGreatVfN
namespace Go.Proofs.YtcogkhcfpgelhabGreat
open Go.RowKit
set_option linter.unusedVariables false
set_option maxRecDepth 100000
variable {fb mb : Nat} {ot : Option Nat} {L : Int → Lay} {h : Hx} {q : Int → Option Pn} {cnt : Nat} {T : List Ac} {w w' : World} {X : Nat → Prop}
theorem leaQ_some {d n k : Int} {s : Tx} {pn p : Pn} (hn : q n = some pn) (h : leaQ q d s n pn k = some p) : ∃ p', q k = some p' ∧ p'.kind = p.kind := by
  unfold leaQ at h
  split at h
  · rename_i e
    subst e
    split at h
    · cases h
    · injection h with h
      exact ⟨pn, hn, by rw [← h]; rfl⟩
  · split at h
    · rename_i e1 e
      subst e
      cases hq : q k with
      | none => rw [hq] at h; cases h
      | some x => rw [hq] at h; simp only [Option.map_some, Option.some.injEq] at h; exact ⟨x, rfl, by rw [← h]; rfl⟩
    · exact ⟨p, h, rfl⟩
/-- All blocks are where they were. -/
theorem MutO.of {h' : Hx} {q' : Int → Option Pn} {cnt' : Nat} {T' : List Ac} {w7 : World} {ot' : Option Nat} (hsub : ∀ k p, q' k = some p → ∃ p', q k = some p' ∧ p'.kind = p.kind) (f : Fr X w w7) (hX : ∀ k, X k → Bk fb mb ot L q k ∨ w.heap.size ≤ k) (H8 : FsH fb mb ot' L h' q' cnt' T' w') (f8 : Fr (fun k => k = fb ∨ ot = some k) w7 w') (ho : ot' = ot ∨ ∃ g, ot' = some g ∧ w7.heap.size ≤ g) : MutO fb mb ot L q h' q' cnt' T' w w' := by
  refine ⟨ot', L, H8, ?_, fun k hk8 => ?_⟩
  · have g1 : Fr (Bk fb mb ot L q) w w7 := f.mono hX
    exact g1.trans (f8.mono (fun i hi => by
      rcases hi with rfl | hi
      · exact .inl (.inl rfl)
      · exact .inl (.inr (.inr (.inl hi)))))
  · have hs7 := f.size
    rcases hk8 with rfl | rfl | hk8 | ⟨n, p, hp, hk8⟩
    · exact .inl (.inl rfl)
    · exact .inl (.inr (.inl rfl))
    · rcases ho with e | ⟨g, e, hg⟩
      · exact .inl (.inr (.inr (.inl (e ▸ hk8))))
      · rw [e] at hk8; injection hk8 with hk8; exact .inr (by omega)
    · obtain ⟨p', hp', hkp⟩ := hsub n p hp
      exact .inl (.inr (.inr (.inr ⟨n, p', hp', by rw [hkp]; exact hk8⟩)))
/-- What remove answers. -/
def remE (q : Int → Option Pn) (d : Int) (s : Tx) (dirB : Bool) : Int := if (fndQ q d s).2 ≠ 0 then (fndQ q d s).2 else if isDirQ q (fndQ q d s).1 ≠ dirB then 106 else if ((q (fndQ q d s).1).map (fun p => p.ne)).getD 0 > 0 then 109 else 0
def RemO (fb mb : Nat) (ot : Option Nat) (L : Int → Lay) (h : Hx) (q : Int → Option Pn) (cnt : Nat) (T : List Ac) (op d : Int) (s : Tx) (dirB : Bool) (w : World) (e : Ending) (w' : World) : Prop :=
  (remE q d s dirB ≠ 0 ∧ e = .returned (.int .i64 (remE q d s dirB)) ∧ Nw w w') ∨
  (remE q d s dirB = 0 ∧ e = .returned (.int .i64 0) ∧ ∃ n pn, fndQ q d s = (n, 0) ∧ q n = some pn ∧ MutO fb mb ot L q (leaH h pn) (leaQ q d s n pn) (leaN cnt pn) (T ++ [⟨op, d, s, n, 0, [], 0, 0⟩]) w w')
/-- What is asked of an entry. -/
def EntOk (q : Int → Option Pn) (d : Int) (s : Tx) : Prop := ∀ p n, q d = some p → p.ents s = some n → n ≠ 0 ∧ I64 n ∧ n ≠ d ∧ ∃ pn, q n = some pn ∧ 1 ≤ pn.links ∧ pn.links ≤ 1000000000000000 ∧ pn.data.length ≤ 1000000000000000
theorem fndQ_ok {d n : Int} {s : Tx} (hf : fndQ q d s = (n, 0)) : ∃ pd, q d = some pd ∧ pd.kind = 1 ∧ pd.ents s = some n := by
  unfold fndQ at hf
  by_cases hu : unfQ q [(d, s)] = 0
  · rw [if_neg (fun e => e hu)] at hf
    obtain ⟨pd, hd, hk, _⟩ := unfQ_one hu
    rw [hd] at hf
    simp only [Option.bind_some] at hf
    cases he : pd.ents s with
    | none => rw [he] at hf; simp at hf
    | some y => rw [he] at hf; simp at hf; exact ⟨pd, hd, hk, by rw [he, hf]⟩
  · rw [if_pos hu] at hf
    injection hf with _ hf
    exact absurd hf hu
set_option maxHeartbeats 8000000 in
theorem remove_any (H : FsH fb mb ot L h q cnt T w) (hT : T.length ≤ 2000000000000) (op d : Int) (hd64 : I64 d) (s : Tx) (hs : s.length ≤ 140737488351232) (dirB : Bool) (hen : EntOk q d s) (hh : 0 ≤ h.held ∧ h.held ≤ 1000000000000000) :
    Calls Tryz.prog 57 #[.pointer (some ⟨fb, 0, none⟩), .int .i64 op, .agg #[.int .i64 d, .string (mk s)], .bool dirB] w (RemO fb mb ot L h q cnt T op d s dirB w) := by
  obtain ⟨P, hP⟩ : ∃ P : Ending → World → Prop, P = RemO fb mb ot L h q cnt T op d s dirB w := ⟨_, rfl⟩
  rw [← hP]
  have HFE : Hid (∀ er V, er ≠ 0 → remE q d s dirB = er → Nw w V → P (.returned (.int .i64 er)) V) := fun er V h1 h2 hV => by
    rw [hP]
    subst h2
    exact .inl ⟨h1, rfl, hV⟩
  obtain ⟨V, hV⟩ : ∃ V, V = w.alloc (.cells #[.int .i64 d, .string (mk s)] 110) := ⟨_, rfl⟩
  have hN : Nw w V := by rw [hV]; exact (Fr.refl _ _).alloc _
  have HV := H.nw hN
  have HCI : Hid (∀ V', Nw V V' → V'.cell? ⟨w.heap.size, 0, none⟩ = some (.int .i64 d) ∧ V'.cell? ⟨w.heap.size, 1, none⟩ = some (.string (mk s))) := fun V' hV' => by
    constructor
    · refine hV'.cell ?_; rw [hV]; exact (rc (nh w _) 0 _ rfl).1
    · refine hV'.cell ?_; rw [hV]; exact (rc (nh w _) 1 _ rfl).1
  have HFn : Hid (Calls Tryz.prog 49 #[.pointer (some ⟨fb, 0, none⟩), .agg #[.int .i64 d, .string (mk s)]] V fun e w2 => e = .returned (.tuple #[.int .i64 (fndQ q d s).1, .int .i64 (fndQ q d s).2]) ∧ Hid (Nw V w2)) := found_any HV d hd64 s hs (fun p n h1 h2 => (hen p n h1 h2).1)
  have HNw : Hid (∀ V', Nw V V' → Nw w V') := fun V' h' => hN.trans h'
  have HRest : Hid ((fndQ q d s).2 = 0 → ∃ pn, q (fndQ q d s).1 = some pn ∧ ∀ w2, Nw V w2 → Hid (Calls Tryz.prog 44 #[.pointer (some ⟨fb, 0, none⟩), .int .i64 (fndQ q d s).1] w2 fun e w' => e = .returned (.bool (isDirQ q (fndQ q d s).1)) ∧ w2 = w') ∧ Hid (Calls Tryz.prog 76 #[.pointer (some ⟨fb, 0, none⟩), .int .i64 (fndQ q d s).1] w2 fun e w' => e = .returned (.bool (decide (0 < pn.ne))) ∧ w2 = w') ∧ Hid (remE q d s dirB = 0 → Calls Tryz.prog 77 #[.pointer (some ⟨fb, 0, none⟩), .agg #[.int .i64 d, .string (mk s)]] w2 fun e w3 => (∃ r, e = .returned r) ∧ w3.cell? ⟨w.heap.size, 0, none⟩ = some (.int .i64 d) ∧ w3.cell? ⟨w.heap.size, 1, none⟩ = some (.string (mk s)) ∧ Hid (Calls Tryz.prog 53 #[.pointer (some ⟨fb, 0, none⟩), .agg #[.int .i64 op, .int .i64 d, .string (mk s), .int .i64 (fndQ q d s).1, .int .i64 0, .string ⟨#[]⟩, .int .i64 0, .int .i64 0]] w3 fun e w4 => (∃ r, e = .returned r) ∧ Hid (P (.returned (.int .i64 0)) w4)))) := fun hz => by
    have hpair : fndQ q d s = ((fndQ q d s).1, 0) := by rw [← hz]
    obtain ⟨n, hn⟩ : ∃ n, n = (fndQ q d s).1 := ⟨_, rfl⟩
    rw [← hn] at hpair ⊢
    obtain ⟨pd, hd, hk, hf⟩ := fndQ_ok hpair
    obtain ⟨_, hn64, hne, pn, hpn, hl1, hl2, hdl⟩ := hen pd n hd hf
    refine ⟨pn, hpn, fun w2 h2 => ⟨isDir_any (HV.nw h2) n hn64, hasEntries_any (HV.nw h2) n hn64 hpn, fun hr => ?_⟩⟩
    refine (leave_any (HV.nw h2) d n hd64 hn64 s hs hd hk hf hpn (fun e => hne e.symm) ⟨hl1, hl2⟩ ⟨hh.1, hh.2, hdl⟩).mono ?_
    rintro e w3 ⟨hr3, H3, f3⟩
    have hb1 := H.lt _ (.inr (.inr (.inr ⟨d, pd, hd, .inr (.inl ⟨hk, rfl⟩)⟩)))
    have hb2 := H.lt _ (.inr (.inr (.inr ⟨n, pn, hpn, .inl rfl⟩)))
    have hb3 := H.lt fb (.inl rfl)
    have hb4 := H.lt mb (.inr (.inl rfl))
    have hsb : ¬ (w.heap.size = (L d).eb ∨ w.heap.size = (L n).ib ∨ w.heap.size = fb ∨ w.heap.size = mb) := by omega
    have hc := HCI.out w2 h2
    refine ⟨hr3, f3.cellv hc.1 hsb, f3.cellv hc.2 hsb, ?_⟩
    refine Calls.mono (did_any H3 hT ⟨op, d, s, n, 0, [], 0, 0⟩) ?_
    rintro e w4 ⟨hr4, ot', H4, f4, ho⟩
    refine ⟨hr4, ?_⟩
    show P _ _
    rw [hP]
    refine .inr ⟨hr, rfl, n, pn, hpair, hpn, ?_⟩
    refine MutO.of (X := fun k => k = (L d).eb ∨ k = (L n).ib ∨ k = fb ∨ k = mb) (w7 := w3) (fun k p hp => leaQ_some hpn hp) ((hN.any.trans h2.any).trans f3) (fun k hk2 => ?_) H4 f4 ho
    rcases hk2 with rfl | rfl | rfl | rfl
    · exact .inl (.inr (.inr (.inr ⟨d, pd, hd, .inr (.inl ⟨hk, rfl⟩)⟩)))
    · exact .inl (.inr (.inr (.inr ⟨n, pn, hpn, .inl rfl⟩)))
    · exact .inl (.inl rfl)
    · exact .inl (.inr (.inl rfl))
  have HRE : Hid (remE q d s dirB = if (fndQ q d s).2 ≠ 0 then (fndQ q d s).2 else if isDirQ q (fndQ q d s).1 ≠ dirB then 106 else if ((q (fndQ q d s).1).map (fun p => p.ne)).getD 0 > 0 then 109 else 0) := rfl
  obtain ⟨s0, s1⟩ := HCI.out V (Fr.refl _ _)
  have HW1 := tHid hV
  clear H HV hP hN hen hV
  generalize remE q d s dirB = er at *
  obtain ⟨n, hn⟩ : ∃ n, n = (fndQ q d s).1 := ⟨_, rfl⟩
  obtain ⟨fe, hfe⟩ : ∃ fe, fe = (fndQ q d s).2 := ⟨_, rfl⟩
  rw [← hn, ← hfe] at HFn HRest HRE
  clear hn hfe
  go_enter Tryz.func57, Tryz.ntmps57
  go_upto_region 1 with fail
  rw [← HW1.out]
  clear HW1
  go_upto_region 2 with (first | (go_at_call 49; with_reducible refine HFn.out.mono ?_; rintro e w2 ⟨rfl, H2⟩))
  by_cases hz : fe = 0
  · obtain ⟨pn, hpn, hR⟩ := HRest.out hz
    obtain ⟨HD, HE, HL⟩ := hR w2 H2.out
    obtain ⟨s02, s12⟩ := HCI.out w2 H2.out
    have e1 := HRE.out
    rw [if_neg (fun e => e hz), hpn] at e1
    simp only [Option.map_some, Option.getD_some] at e1
    have HRE2 := tHid e1
    clear e1 HRE HRest hR hpn s0 s1 HFn HCI
    subst hz
    generalize isDirQ q n = Bd at *
    by_cases hbd : Bd = dirB
    · have e1 := HRE2.out
      rw [if_neg (fun e => e hbd)] at e1
      have HRE3 := tHid e1
      clear e1 HRE2
      subst hbd
      by_cases hne : 0 < pn.ne
      · have e1 := HRE3.out
        rw [if_pos hne] at e1
        have HF := tHid (HFE.out er w2 (by rw [e1]; decide) rfl (HNw.out _ H2.out))
        rw [e1] at HF
        rw [decide_eq_true hne] at HE
        clear HRE3 HFE HNw HL e1
        go_wp2_with (first | (go_at_call 44; with_reducible refine HD.out.mono ?_; rintro e w5 ⟨rfl, rfl⟩) | (go_at_call 76; with_reducible refine HE.out.mono ?_; rintro e w5 ⟨rfl, rfl⟩))
        exact HF.out
      · have e1 := HRE3.out
        rw [if_neg hne] at e1
        have HL2 := tHid (HL.out e1)
        rw [decide_eq_false hne] at HE
        clear HRE3 HFE HNw HL e1
        generalize mk s = ss at *
        go_upto_region 9 with (first | (go_at_call 44; with_reducible refine HD.out.mono ?_; rintro e w5 ⟨rfl, rfl⟩) | (go_at_call 76; with_reducible refine HE.out.mono ?_; rintro e w5 ⟨rfl, rfl⟩) | (go_at_call 77; with_reducible refine HL2.out.mono ?_; rintro e w3 ⟨⟨r3, rfl⟩, s03, s13, HDd⟩))
        go_wp2_with (first | (go_at_call 53; with_reducible refine HDd.out.mono ?_; rintro e w4 ⟨⟨r4, rfl⟩, HF⟩))
        exact HF.out
    · have e1 := HRE2.out
      rw [if_pos hbd] at e1
      have HF := tHid (HFE.out er w2 (by rw [e1]; decide) rfl (HNw.out _ H2.out))
      rw [e1] at HF
      have hbb : (Bd == dirB) = false := by rw [beq_eq_false_iff_ne]; exact hbd
      have hbn : (Bd != dirB) = true := by rw [bne, hbb]; rfl
      clear HRE2 HFE HNw HL HE e1
      go_wp2_with (first | (go_at_call 44; with_reducible refine HD.out.mono ?_; rintro e w5 ⟨rfl, rfl⟩))
      exact HF.out
  · have e1 := HRE.out
    rw [if_pos hz] at e1
    have HF := tHid (HFE.out er w2 (by rw [e1]; exact hz) rfl (HNw.out _ H2.out))
    rw [e1] at HF
    have hzb : (fe == 0) = false := by rw [beq_eq_false_iff_ne]; exact hz
    clear HRE HFE HNw HRest e1 HFn HCI
    go_wp2_with fail
    exact HF.out
theorem RemO.int {op d : Int} {s : Tx} {dirB : Bool} {e : Ending} (hA : RemO fb mb ot L h q cnt T op d s dirB w e w') : ∃ a, e = .returned (.int .i64 a) := by
  rcases hA with ⟨_, rfl, _⟩ | ⟨_, rfl, _⟩
  · exact ⟨_, rfl⟩
  · exact ⟨_, rfl⟩
set_option maxHeartbeats 2000000 in
theorem unlink_any (H : FsH fb mb ot L h q cnt T w) (hT : T.length ≤ 2000000000000) (d : Int) (hd64 : I64 d) (s : Tx) (hs : s.length ≤ 140737488351232) (hen : EntOk q d s) (hh : 0 ≤ h.held ∧ h.held ≤ 1000000000000000) :
    Calls Tryz.prog 30 #[.pointer (some ⟨fb, 0, none⟩), .int .i64 d, .string (mk s)] w (RemO fb mb ot L h q cnt T 7 d s false w) := by
  obtain ⟨P, hP⟩ : ∃ P : Ending → World → Prop, P = RemO fb mb ot L h q cnt T 7 d s false w := ⟨_, rfl⟩
  rw [← hP]
  have HR : Hid (Calls Tryz.prog 57 #[.pointer (some ⟨fb, 0, none⟩), .int .i64 7, .agg #[.int .i64 d, .string (mk s)], .bool false] w fun e w' => ∃ a, e = .returned (.int .i64 a) ∧ Hid (P e w')) := by
    refine Calls.mono (remove_any H hT 7 d hd64 s hs false hen hh) (fun e w' hh => ?_)
    obtain ⟨a, e1⟩ := hh.int
    exact ⟨a, e1, by rw [hP]; exact hh⟩
  clear H hP hen
  generalize mk s = ss at *
  go_enter Tryz.func30, Tryz.ntmps30
  go_wp2_with (first | (go_at_call 57; with_reducible refine HR.out.mono ?_; rintro e w5 ⟨a, rfl, H5⟩))
  exact H5.out
set_option maxHeartbeats 2000000 in
theorem rmdir_any (H : FsH fb mb ot L h q cnt T w) (hT : T.length ≤ 2000000000000) (d : Int) (hd64 : I64 d) (s : Tx) (hs : s.length ≤ 140737488351232) (hen : EntOk q d s) (hh : 0 ≤ h.held ∧ h.held ≤ 1000000000000000) :
    Calls Tryz.prog 31 #[.pointer (some ⟨fb, 0, none⟩), .int .i64 d, .string (mk s)] w (RemO fb mb ot L h q cnt T 8 d s true w) := by
  obtain ⟨P, hP⟩ : ∃ P : Ending → World → Prop, P = RemO fb mb ot L h q cnt T 8 d s true w := ⟨_, rfl⟩
  rw [← hP]
  have HR : Hid (Calls Tryz.prog 57 #[.pointer (some ⟨fb, 0, none⟩), .int .i64 8, .agg #[.int .i64 d, .string (mk s)], .bool true] w fun e w' => ∃ a, e = .returned (.int .i64 a) ∧ Hid (P e w')) := by
    refine Calls.mono (remove_any H hT 8 d hd64 s hs true hen hh) (fun e w' hh => ?_)
    obtain ⟨a, e1⟩ := hh.int
    exact ⟨a, e1, by rw [hP]; exact hh⟩
  clear H hP hen
  generalize mk s = ss at *
  go_enter Tryz.func31, Tryz.ntmps31
  go_wp2_with (first | (go_at_call 57; with_reducible refine HR.out.mono ?_; rintro e w5 ⟨a, rfl, H5⟩))
  exact H5.out
end Go.Proofs.YtcogkhcfpgelhabGreat

import Derived.Test.YtcogkhcfpgelhabGreatVfH
namespace Go.Proofs.YtcogkhcfpgelhabGreat
open Go.RowKit
set_option linter.unusedVariables false
set_option maxRecDepth 100000
variable {fb mb : Nat} {ot : Option Nat} {L : Int → Lay} {h : Hx} {q : Int → Option Pn} {cnt : Nat} {T : List Ac} {w w' : World} {X : Nat → Prop}
/-- What a call that changes something leaves. -/
def MutO (fb mb : Nat) (ot : Option Nat) (L : Int → Lay) (q : Int → Option Pn) (h' : Hx) (q' : Int → Option Pn) (cnt' : Nat) (T' : List Ac) (w w' : World) : Prop := ∃ ot' L', FsH fb mb ot' L' h' q' cnt' T' w' ∧ Fr (Bk fb mb ot L q) w w' ∧ ∀ k, Bk fb mb ot' L' q' k → Bk fb mb ot L q k ∨ w.heap.size ≤ k
theorem entQ_some {d n k : Int} {s : Tx} {p : Pn} (h : entQ q d s n k = some p) : ∃ p', q k = some p' ∧ p'.kind = p.kind := by
  unfold entQ at h
  split at h
  · rename_i e
    subst e
    cases hq : q k with
    | none => rw [hq] at h; cases h
    | some x => rw [hq] at h; simp only [Option.map_some, Option.some.injEq] at h; exact ⟨x, rfl, by rw [← h]; rfl⟩
  · split at h
    · rename_i e1 e
      subst e
      cases hq : q k with
      | none => rw [hq] at h; cases h
      | some x => rw [hq] at h; simp only [Option.map_some, Option.some.injEq] at h; exact ⟨x, rfl, by rw [← h]; rfl⟩
    · exact ⟨p, h, rfl⟩
/-- An inode that is new. -/
abbrev newP (kd : Int) (mt : Mt) (tgt : Tx) : Pn := ⟨kd, mt, [], tgt, fun _ => none, 0, 0, 0⟩
/-- The entries of an inode that is new. -/
def newE (kd : Int) (eb : Nat) : Value := if kd = 1 then .map (some eb) else .map none
def withQ (q : Int → Option Pn) (n : Int) (p : Pn) (k : Int) : Option Pn := if k = n then some p else q k
/-- What add leaves of the inodes. -/
def addQ (q : Int → Option Pn) (d : Int) (s : Tx) (n : Int) (p : Pn) : Int → Option Pn := entQ (withQ q n p) d s n
theorem add_tail {w0 V : World} (H0 : FsH fb mb ot L h q cnt T w0) (hN : Nw w0 V) (hfr : q h.next = none) (hnx : 0 ≤ h.next ∧ h.next ≤ 1099511627776) (hT : T.length ≤ 2000000000000) (hcn : cnt ≤ 1000000) {d : Int} (hd64 : I64 d) {s : Tx} (hs : s.length ≤ 140737488351232) {pd : Pn} (hd : q d = some pd) (hk : pd.kind = 1) (hf : pd.ents s = none) (hne : pd.ne ≤ 1000000000000000)
    (kd : Int) (mt : Mt) (tgt : Tx) (ib eb sb : Nat) (hib : w0.heap.size ≤ ib) (hsb : w0.heap.size ≤ sb) (hsi : sb ≠ ib) (c0 : V.cell? ⟨sb, 0, none⟩ = some (.int .i64 d)) (c1 : V.cell? ⟨sb, 1, none⟩ = some (.string (mk s)))
    (hI : V.heap[ib]? = some (.cells (ndC (newP kd mt tgt) (.slice none 0 0) (newE kd eb)) 91)) (hE : kd = 1 → w0.heap.size ≤ eb ∧ Mp ME eb (fun _ => none) 0 V) (op : Int) :
    ∃ W6, (Instr.mapUpdate 80 (.map (some mb)) (.int .i64 h.next) (.pointer (some ⟨ib, 0, none⟩))).run Tryz.prog (V.setCell ⟨fb, 4, none⟩ (.int .i64 (h.next + 1))) = .ok () W6 ∧ W6.cell? ⟨sb, 0, none⟩ = some (.int .i64 d) ∧ W6.cell? ⟨sb, 1, none⟩ = some (.string (mk s)) ∧ Hid (Calls Tryz.prog 56 #[.pointer (some ⟨fb, 0, none⟩), .agg #[.int .i64 d, .string (mk s)], .int .i64 h.next] W6 fun e w7 => (∃ r, e = .returned r) ∧ w7.cell? ⟨sb, 0, none⟩ = some (.int .i64 d) ∧ w7.cell? ⟨sb, 1, none⟩ = some (.string (mk s)) ∧ Hid (Calls Tryz.prog 53 #[.pointer (some ⟨fb, 0, none⟩), .agg (acC ⟨op, d, s, h.next, 0, [], 0, 0⟩)] w7 fun e w8 => (∃ r, e = .returned r) ∧ Hid (MutO fb mb ot L q { h with next := h.next + 1 } (addQ q d s h.next (newP kd mt tgt)) (cnt + 1) (T ++ [⟨op, d, s, h.next, 0, [], 0, 0⟩]) w0 w8))) := by
  have HV := H0.nw hN
  obtain ⟨tv, v1, v2⟩ := HV.blk
  have f1 : Fr (fun k => k = fb) V (V.setCell ⟨fb, 4, none⟩ (.int .i64 (h.next + 1))) := (Fr.refl (fun k => k = fb) V).setCell ⟨fb, 4, none⟩ _ (.inl rfl)
  have hfo : ot ≠ some fb := fun e => by
    have t1 := HV.tot fb e
    rw [HV.tfb] at t1; cases t1
  have H1 : FsH fb mb ot L { h with next := h.next + 1 } q cnt T (V.setCell ⟨fb, 4, none⟩ (.int .i64 (h.next + 1))) := by
    refine HV.head f1 (fun k e => .inl e) (.inl rfl) (tv := tv) (rset v1 4 _) (v2.kept f1 (fun g hg e => hfo (by rw [hg, e])))
  generalize V.setCell ⟨fb, 4, none⟩ (.int .i64 (h.next + 1)) = V1 at *
  obtain ⟨W6, r1, r2, r3⟩ := H1.mp.store miOk h.next ⟨by omega, by omega⟩ ib trivial (by omega)
  have hfb : fb < w0.heap.size := H0.lt fb (.inl rfl)
  have hmb : mb < w0.heap.size := H0.lt mb (.inr (.inl rfl))
  have fI : V1.heap[ib]? = some (.cells (ndC (newP kd mt tgt) (.slice none 0 0) (newE kd eb)) 91) := f1.heap hI (by omega)
  have fI6 := r3.heap fI (by omega)
  have hN6 : NdH ⟨ib, eb, none⟩ (newP kd mt tgt) W6 := by
    refine ⟨_, _, fI6, ⟨rfl, rfl⟩, fun hk1 => ?_, fun hk1 => ?_⟩
    · obtain ⟨e1, e2⟩ := hE hk1
      have hk1 : kd = 1 := hk1
      refine ⟨by unfold newE; rw [if_pos hk1], ?_⟩
      exact (e2.kept f1 (by omega)).kept r3 (by omega)
    · have hk1 : kd ≠ 1 := hk1
      exact ⟨by unfold newE; rw [if_neg hk1], rfl, fun _ => rfl⟩
  have hs1 := hN.size
  have hs2 := f1.size
  have H6 := H1.more (n := h.next) hfr (p := newP kd mt tgt) (y := ⟨ib, eb, none⟩) r3 (w0 := w0) (by omega) (fun k hk => H0.lt k hk) ⟨hib, fun hk1 => (hE hk1).1, fun g hg => by cases hg⟩ hN6 (cnt' := cnt + 1) (fun m hm => by
    have := r2 m (fun x _ => hm x)
    rw [hfr] at this
    exact this)
  have hdn : d ≠ h.next := fun e => by rw [e, hfr] at hd; cases hd
  have hqd : withQ q h.next (newP kd mt tgt) d = some pd := by unfold withQ; rw [if_neg hdn]; exact hd
  have hqn : withQ q h.next (newP kd mt tgt) h.next = some (newP kd mt tgt) := by unfold withQ; rw [if_pos rfl]
  have HE := enter_any H6 d h.next hd64 ⟨by omega, by omega⟩ s hs hqd hk hf hne hqn hdn ⟨Int.le_refl _, by show (0 : Int) ≤ _; omega⟩
  have fB : Fr (fun k => k = fb ∨ k = mb) V W6 := (f1.mono (fun i e => .inl (.inl e))).trans (r3.mono (fun i e => .inl (.inr e)))
  refine ⟨W6, r1, fB.cellv c0 (by show ¬ (sb = fb ∨ sb = mb); omega), fB.cellv c1 (by show ¬ (sb = fb ∨ sb = mb); omega), HE.mono ?_⟩
  rintro e w7 ⟨hr, H7, f7⟩
  simp only [if_neg hdn] at f7
  have hLd : (L d).eb < w0.heap.size := H0.lt _ (.inr (.inr (.inr ⟨d, pd, hd, .inr (.inl ⟨hk, rfl⟩)⟩)))
  have hsbf : ¬ (sb = (L d).eb ∨ sb = ib) := by omega
  have fA : Fr (fun k => k = fb ∨ k = mb ∨ k = (L d).eb ∨ k = ib) V w7 := ((f1.mono (fun i e => .inl (.inl e))).trans (r3.mono (fun i e => .inl (.inr (.inl e))))).trans (f7.mono (fun i e => .inl (.inr (.inr (by simpa using e)))))
  have hsA : ¬ (sb = fb ∨ sb = mb ∨ sb = (L d).eb ∨ sb = ib) := by omega
  refine ⟨hr, fA.cellv c0 hsA, fA.cellv c1 hsA, ?_⟩
  refine (did_any H7 hT _).mono ?_
  rintro e w8 ⟨hr8, ot', H8, f8, ho⟩
  refine ⟨hr8, ot', _, H8, ?_, fun k hk8 => ?_⟩
  · have g1 : Fr (Bk fb mb ot L q) w0 w7 := (hN.any (X := Bk fb mb ot L q)).then fA (fun i hi => by
      rcases hi with rfl | rfl | rfl | rfl
      · exact .inl (.inl rfl)
      · exact .inl (.inr (.inl rfl))
      · exact .inl (.inr (.inr (.inr ⟨d, pd, hd, .inr (.inl ⟨hk, rfl⟩)⟩)))
      · exact .inr hib)
    exact g1.trans (f8.mono (fun i hi => by
      rcases hi with rfl | hi
      · exact .inl (.inl rfl)
      · exact .inl (.inr (.inr (.inl hi)))))
  · have hs7 := fA.size
    rcases hk8 with rfl | rfl | hk8 | ⟨n, p, hp, hk8⟩
    · exact .inl (.inl rfl)
    · exact .inl (.inr (.inl rfl))
    · rcases ho with e | ⟨g, e, hg⟩
      · exact .inl (.inr (.inr (.inl (e ▸ hk8))))
      · rw [e] at hk8; injection hk8 with hk8; exact .inr (by omega)
    · obtain ⟨p', hp', hkp⟩ := entQ_some hp
      by_cases hnn : n = h.next
      · subst hnn
        rw [hqn] at hp'
        simp only [if_pos] at hk8
        injection hp' with hp'
        rcases hk8 with rfl | ⟨hk1, rfl⟩ | hk8
        · exact .inr hib
        · exact .inr (hE (by rw [← hp'] at hkp; exact hkp.trans hk1)).1
        · cases hk8
      · unfold withQ at hp'
        rw [if_neg hnn] at hp'
        simp only [if_neg hnn] at hk8
        exact .inl (.inr (.inr (.inr ⟨n, p', hp', by rw [hkp]; exact hk8⟩)))
/-- What add answers. -/
def addE (h : Hx) (q : Int → Option Pn) (cnt : Nat) (d : Int) (s : Tx) (kd : Int) (mt : Mt) (tgt : Tx) : Int :=
  if unfQ q [(d, s)] ≠ 0 then unfQ q [(d, s)] else if kd = 3 ∧ tgOk tgt = false then 107 else if mtOk mt = false then 1 else if ((q d).bind (fun p => p.ents s)).isSome then 104 else if (cnt : Int) ≥ h.nodes ∨ h.next ≥ 1099511627776 then 105 else 0
theorem unfQ_one {d : Int} {s : Tx} (hu : unfQ q [(d, s)] = 0) : ∃ pd, q d = some pd ∧ pd.kind = 1 ∧ nmOk s = true := by
  unfold unfQ at hu
  simp only [List.any_cons, List.any_nil, Bool.or_false] at hu
  cases hq : q d with
  | none => rw [hq] at hu; simp at hu
  | some pd =>
    rw [hq] at hu
    simp only [Option.isNone_some, Bool.false_eq_true, if_false] at hu
    unfold isDirQ at hu
    rw [hq] at hu
    by_cases hk : pd.kind = 1
    · simp only [hk, decide_true, Bool.not_true, Bool.false_eq_true, if_false] at hu
      cases hn : nmOk s with
      | false => rw [hn] at hu; simp at hu
      | true => exact ⟨pd, rfl, hk, rfl⟩
    · simp [hk] at hu
end Go.Proofs.YtcogkhcfpgelhabGreat

import Derived.Test.YtcogkhcfpgelhaaGreatVbg
namespace Go.Proofs.YtcogkhcfpgelhaaGreat
open Go.RowKit
set_option linter.unusedVariables false
set_option maxRecDepth 100000
variable {fb mb : Nat} {ot : Option Nat} {L : Int → Lay} {T : List Ac} {w w' : World} {X : Im}
/-! ### Each call, in the image's words -/
structure Rs where
  n : Int
  e : Int
  X : Im
  acts : List Ac
def totE (l : List Nd) : Nat := sumF (fun x => x.ents.length) l
theorem few_of (h : totE X.l ≤ 1000000000) : Few X := fun x hx => Nat.le_trans (sumF_mem (fun x => x.ents.length) hx) h
def addR (X : Im) (op d : Int) (s : Tx) (kd : Int) (mt : Mt) (tgt : Tx) : Rs := if addE (hOf X) (qOf X.l) X.l.length d s kd mt tgt = 0 then ⟨X.next, 0, { X with next := X.next + 1, l := putE (X.l ++ [⟨X.next, kd, mt, [], tgt, []⟩]) d s X.next }, [⟨op, d, s, X.next, 0, [], 0, 0⟩]⟩ else ⟨0, addE (hOf X) (qOf X.l) X.l.length d s kd mt tgt, X, []⟩
def lnkR (X : Im) (d : Int) (s : Tx) (n : Int) : Rs := if lnkE (qOf X.l) d s n = 0 then ⟨0, 0, { X with l := putE X.l d s n }, [⟨4, d, s, n, 0, [], 0, 0⟩]⟩ else ⟨0, lnkE (qOf X.l) d s n, X, []⟩
def remR (X : Im) (op d : Int) (s : Tx) (b : Bool) : Rs := if remE (qOf X.l) d s b = 0 then ⟨0, 0, { X with l := leaL X.l d s (fndQ (qOf X.l) d s).1 }, [⟨op, d, s, (fndQ (qOf X.l) d s).1, 0, [], 0, 0⟩]⟩ else ⟨0, remE (qOf X.l) d s b, X, []⟩
def datR (l : List Nd) (n : Int) (f : List By → List By) : List Nd := updL l n (fun x => { x with data := f x.data })
def rszR (X : Im) (n size : Int) : Rs := if rszE (hOf X) (qOf X.l) n size = 0 then ⟨0, 0, { X with l := datR X.l n (fun l => rszD l size.toNat) }, [⟨6, 0, [], n, 0, [], 0, size⟩]⟩ else ⟨0, rszE (hOf X) (qOf X.l) n size, X, []⟩
def wrR (X : Im) (n pl : Int) (b : List By) : Rs := if wrE (hOf X) (qOf X.l) n pl b = 0 then ⟨0, 0, { X with l := datR X.l n (fun l => wrD l pl.toNat b) }, [⟨5, 0, [], n, 0, [], pl, b.length⟩]⟩ else ⟨0, wrE (hOf X) (qOf X.l) n pl b, X, []⟩
def chR (X : Im) (n : Int) (m : Mt) : Rs := if chE (qOf X.l) n m = 0 then ⟨0, 0, { X with l := updL X.l n (fun x => { x with mt := m }) }, [⟨10, 0, [], n, 0, [], 0, 0⟩]⟩ else ⟨0, chE (qOf X.l) n m, X, []⟩
noncomputable def rnR (X : Im) (d : Int) (s : Tx) (t : Int) (s2 : Tx) : Rs := if renE X.l d s t s2 = 0 then ⟨0, 0, { X with l := renR X.l d s t s2 }, [⟨9, d, s, entX X.l d s, t, s2, 0, 0⟩]⟩ else ⟨0, renE X.l d s t s2, X, []⟩
/-- What a call has done. -/
def OpO (fb mb : Nat) (ot : Option Nat) (L : Int → Lay) (X : Im) (T : List Ac) (R : Rs) (w w' : World) : Prop := MutO fb mb ot L (qOf X.l) (hOf R.X) (qOf R.X.l) R.X.l.length (T ++ R.acts) w w'
theorem opo_nw {n e : Int} (H : FsH fb mb ot L (hOf X) (qOf X.l) X.l.length T w) (f : Nw w w') : OpO fb mb ot L X T ⟨n, e, X, []⟩ w w' := by
  show MutO _ _ _ _ _ _ _ _ (T ++ []) _ _
  rw [List.append_nil]
  exact ⟨ot, L, H.nw f, f.any, fun k hk => .inl hk⟩
/-- What the calls ask for. -/
structure Ask0 (X : Im) : Prop where
  wf : WF X
  few : Few X
theorem wf_zero (hX : WF X) (d : Int) (s : Tx) : ∀ p n, qOf X.l d = some p → p.ents s = some n → n ≠ 0 := fun p n hp he => by
  obtain ⟨x, hg, _, _, rfl⟩ := qOf_some hp
  obtain ⟨_, _, _, h1, _⟩ := wf_entOk hX hg he
  omega
theorem wf_ne (hF : Few X) (d : Int) : ∀ p, qOf X.l d = some p → p.ne ≤ 1000000000000000 := fun p hp => by
  obtain ⟨x, hg, hm, _, rfl⟩ := qOf_some hp
  have := hF x hm
  show x.ents.length ≤ _
  omega
theorem wf_links (hX : WF X) (hF : Few X) (n : Int) : ∀ p, qOf X.l n = some p → 0 ≤ p.links ∧ p.links ≤ 1000000000000000 := fun p hp => by
  obtain ⟨x, hg, hm, _, rfl⟩ := qOf_some hp
  have := few_links hX hF x.num
  exact ⟨by show 0 ≤ (lks X.l x.num : Int); omega, by show (lks X.l x.num : Int) ≤ _; omega⟩
theorem wf_entOk' (hX : WF X) (hF : Few X) (d : Int) (s : Tx) : EntOk (qOf X.l) d s := fun p n hp he => by
  obtain ⟨x, hg, hm, _, rfl⟩ := qOf_some hp
  obtain ⟨xn, hgn, _, h1, h2, h3, _⟩ := wf_entOk hX hg he
  obtain ⟨hnm, hnn⟩ := get_some hgn
  have := hX.x2
  have hl := wf_links hX hF n _ (qOf_get hgn)
  have hl1 := hX.lk1 xn hnm
  have hd := (hX.kinds xn hnm).len
  exact ⟨by omega, ⟨by omega, by omega⟩, fun e => h3 e.symm, _, qOf_get hgn, by show 1 ≤ (lks X.l xn.num : Int); omega, hl.2, by show xn.data.length ≤ _; omega⟩
theorem wf_data (hX : WF X) (n : Int) : ∀ p, qOf X.l n = some p → p.data.length ≤ 4194304 := fun p hp => by
  obtain ⟨x, hg, hm, _, rfl⟩ := qOf_some hp
  exact (hX.kinds x hm).len
theorem wf_held (hX : WF X) : 0 ≤ (hOf X).held ∧ (hOf X).held ≤ 4194304 ∧ 0 ≤ (hOf X).bytes ∧ (hOf X).bytes ≤ 4194304 := by
  have h1 := hX.held
  have h2 := hX.b2
  have h3 := hX.b1
  show 0 ≤ (heldF X.l : Int) ∧ (heldF X.l : Int) ≤ 4194304 ∧ 0 ≤ X.bytes ∧ X.bytes ≤ 4194304
  omega
theorem wf_cnt (hX : WF X) : X.l.length ≤ 4096 := by have := hX.len; have := hX.n2; omega
/-! ### What a new inode may be -/
theorem addE_zero {d : Int} {s : Tx} {kd : Int} {mt : Mt} {tgt : Tx} (h : addE (hOf X) (qOf X.l) X.l.length d s kd mt tgt = 0) : ∃ xd, get X.l d = some xd ∧ xd.kind = 1 ∧ nmOk s = true ∧ entL xd.ents s = none ∧ (kd = 3 → tgOk tgt = true) ∧ mtOk mt = true ∧ (X.l.length : Int) < X.nodes ∧ X.next < 1099511627776 := by
  unfold addE at h
  by_cases hu : unfQ (qOf X.l) [(d, s)] = 0
  · rw [if_neg (fun h => h hu)] at h
    obtain ⟨pd, hpd, hk, hn⟩ := unfQ_one hu
    obtain ⟨x, hg, _, _, rfl⟩ := qOf_some hpd
    split at h
    · cases h
    · rename_i h1
      split at h
      · cases h
      · rename_i h2
        split at h
        · cases h
        · rename_i h3
          split at h
          · cases h
          · rename_i h4
            refine ⟨x, hg, hk, hn, ?_, fun e => ?_, ?_, ?_, ?_⟩
            · rw [qOf_get hg] at h3
              simp only [Option.bind_some] at h3
              cases hc : entL x.ents s with
              | none => rfl
              | some z => exact absurd (by show ((pnOf X.l x).ents s).isSome = true; show (entL x.ents s).isSome = true; rw [hc]; rfl) h3
            · cases ht : tgOk tgt with
              | true => rfl
              | false => exact absurd ⟨e, ht⟩ h1
            · cases hm : mtOk mt with
              | true => rfl
              | false => exact absurd hm h2
            · have h4 : ¬ ((X.l.length : Int) ≥ X.nodes ∨ X.next ≥ 1099511627776) := h4
              omega
            · have h4 : ¬ ((X.l.length : Int) ≥ X.nodes ∨ X.next ≥ 1099511627776) := h4
              omega
  · rw [if_pos hu] at h; exact absurd h hu
theorem held_add {X : Im} (d : Int) (s : Tx) (kd : Int) (mt : Mt) (tgt : Tx) : heldF (putE (X.l ++ [⟨X.next, kd, mt, [], tgt, []⟩]) d s X.next) = heldF X.l := by
  have e : heldF (putE (X.l ++ [⟨X.next, kd, mt, [], tgt, []⟩]) d s X.next) = heldF (X.l ++ [⟨X.next, kd, mt, [], tgt, []⟩]) := held_updL d (f := fun x => { x with ents := insE s X.next x.ents }) (fun _ => rfl)
  rw [e, heldF_sum, heldF_sum, sumF_append]
  simp [sumF]
theorem tot_putE {l : List Nd} (hs : Srt l) {d n : Int} {x : Nd} (hd : get l d = some x) (s : Tx) : totE (putE l d s n) = totE l + 1 := by
  have := sumF_updL (fun x => x.ents.length) hs hd (fun x => { x with ents := insE s n x.ents })
  simp only [insE_length] at this
  unfold totE putE
  omega
theorem tot_rmvE (l : List Nd) (d : Int) (s : Tx) : totE (rmvE l d s) ≤ totE l := by
  induction l with
  | nil => exact Nat.le_refl _
  | cons x r ih =>
    have e1 : totE (rmvE (x :: r) d s) = (if x.num = d then { x with ents := delE s x.ents } else x : Nd).ents.length + totE (rmvE r d s) := by unfold totE sumF rmvE updL; simp only [List.map_cons, List.sum_cons]
    have e2 : totE (x :: r) = x.ents.length + totE r := by unfold totE sumF; simp only [List.map_cons, List.sum_cons]
    have : (if x.num = d then { x with ents := delE s x.ents } else x : Nd).ents.length ≤ x.ents.length := by
      split
      · exact List.length_filter_le _ _
      · exact Nat.le_refl _
    omega
theorem tot_dropL (l : List Nd) (n : Int) : totE (dropL l n) ≤ totE l := by
  unfold totE dropL sumF
  induction l with
  | nil => simp
  | cons x r ih =>
    rw [List.filter_cons]
    split
    · simp only [List.map_cons, List.sum_cons]; omega
    · simp only [List.map_cons, List.sum_cons]; omega
theorem tot_leaL (l : List Nd) (d : Int) (s : Tx) (n : Int) : totE (leaL l d s n) ≤ totE l := by
  unfold leaL
  split
  · exact Nat.le_trans (tot_dropL _ _) (tot_rmvE l d s)
  · exact tot_rmvE l d s
theorem tot_same {l : List Nd} (n : Int) {f : Nd → Nd} (hf : ∀ x, (f x).ents = x.ents) : totE (updL l n f) = totE l := by
  unfold totE updL sumF
  rw [List.map_map]
  congr 1
  apply List.map_congr_left
  intro x _
  simp only [Function.comp]
  split
  · rw [hf]
  · rfl
theorem tot_app (l : List Nd) (y : Nd) (hy : y.ents = []) : totE (l ++ [y]) = totE l := by
  unfold totE
  rw [sumF_append]
  simp [sumF, hy]
theorem addR_good (hX : WF X) (op d : Int) (s : Tx) (kd : Int) (hkd : kd = 1 ∨ kd = 2 ∨ kd = 3) (mt : Mt) (tgt : Tx) (ht : kd ≠ 3 → tgt = []) : WF (addR X op d s kd mt tgt).X ∧ totE (addR X op d s kd mt tgt).X.l ≤ totE X.l + 1 := by
  unfold addR
  by_cases h : addE (hOf X) (qOf X.l) X.l.length d s kd mt tgt = 0
  · rw [if_pos h]
    obtain ⟨xd, hg, hk, hn, he, h3, hm, hl, hnx⟩ := addE_zero h
    obtain ⟨hdm, hdn⟩ := get_some hg
    have hnum := hX.nums xd hdm
    have hx1 := hX.x1
    obtain ⟨y, hy⟩ : ∃ y : Nd, y = ⟨X.next, kd, mt, [], tgt, []⟩ := ⟨_, rfl⟩
    have hok : NdOk y := by
      rw [hy]
      refine ⟨hm, ?_⟩
      rcases hkd with rfl | rfl | rfl
      · exact .inl ⟨rfl, rfl, ht (by decide)⟩
      · exact .inr (.inl ⟨rfl, by simp, ht (by decide), rfl⟩)
      · exact .inr (.inr ⟨rfl, rfl, h3 rfl, rfl⟩)
    have hW := wf_app hX (y := y) (by rw [hy]) hok (by rw [hy]) (by rw [hy]) hl hnx
    have hgd : get (X.l ++ [y]) d = some xd := by rw [get_append, hg]; rfl
    have hgn : get (X.l ++ [y]) X.next = some y := by
      rw [get_append, get_fresh hX.nums]
      unfold get
      simp [hy]
    have hlk : lks (X.l ++ [y]) X.next = 0 := by rw [lks_append _ (by rw [hy]), lks_fresh hX]
    rw [← hy]
    refine ⟨wfx_put hW hgd hk hn he hgn (by omega) (fun _ => hlk) (fun _ hs => ?_), ?_⟩
    · have := hs.leaf (fun z hz hzn => by
        have h5 := get_mem hW.srt hz
        rw [hzn] at h5
        have : get (X.l ++ [y]) X.next = some z := h5
        rw [hgn] at this
        injection this with this
        rw [← this, hy])
      omega
    · show totE (putE (X.l ++ [y]) d s X.next) ≤ _
      have hsr : Srt (X.l ++ [y]) := hW.srt
      rw [tot_putE hsr hgd, tot_app _ _ (by rw [hy])]
      omega
  · rw [if_neg h]; exact ⟨hX, Nat.le_succ _⟩
theorem addO_X {op d : Int} {s : Tx} {kd : Int} {mt : Mt} {tgt : Tx} {e : Ending} (hX : WF X) (H : FsH fb mb ot L (hOf X) (qOf X.l) X.l.length T w) (hA : AddO fb mb ot L (hOf X) (qOf X.l) X.l.length T op d s kd mt tgt w e w') : e = .returned (.tuple #[.int .i64 (addR X op d s kd mt tgt).n, .int .i64 (addR X op d s kd mt tgt).e]) ∧ OpO fb mb ot L X T (addR X op d s kd mt tgt) w w' := by
  unfold addR
  rcases hA with ⟨h, rfl, hN⟩ | ⟨h, rfl, hM⟩
  · rw [if_neg h]
    exact ⟨rfl, opo_nw H hN⟩
  · rw [if_pos h]
    obtain ⟨xd, hg, hk, hn, he, h3, hm, hl, hnx⟩ := addE_zero h
    refine ⟨rfl, ?_⟩
    unfold OpO
    have e1 : hOf { X with next := X.next + 1, l := putE (X.l ++ [⟨X.next, kd, mt, [], tgt, []⟩]) d s X.next } = { hOf X with next := (hOf X).next + 1 } := by
      unfold hOf
      simp only
      rw [held_add]
    have e2 : (putE (X.l ++ [⟨X.next, kd, mt, [], tgt, []⟩]) d s X.next).length = X.l.length + 1 := by unfold putE; rw [len_updL]; simp
    simp only
    rw [e1, e2, q_add hX hg he]
    exact hM
/-! ### Link -/
theorem lnkE_zero {d n : Int} {s : Tx} (h : lnkE (qOf X.l) d s n = 0) : ∃ xd xn, get X.l d = some xd ∧ xd.kind = 1 ∧ nmOk s = true ∧ entL xd.ents s = none ∧ get X.l n = some xn ∧ xn.kind ≠ 1 := by
  unfold lnkE at h
  cases hq : qOf X.l n with
  | none => rw [if_pos hq] at h; cases h
  | some pn =>
    rw [if_neg (by rw [hq]; simp)] at h
    obtain ⟨xn, hgn, _, _, rfl⟩ := qOf_some hq
    by_cases hu : unfQ (qOf X.l) [(d, s)] = 0
    · rw [if_neg (fun h => h hu)] at h
      obtain ⟨pd, hpd, hk, hn⟩ := unfQ_one hu
      obtain ⟨x, hg, _, _, rfl⟩ := qOf_some hpd
      split at h
      · cases h
      · rename_i h3
        split at h
        · cases h
        · rename_i h4
          refine ⟨x, xn, hg, hk, hn, ?_, hgn, ?_⟩
          · rw [qOf_get hg] at h3
            simp only [Option.bind_some] at h3
            cases hc : entL x.ents s with
            | none => rfl
            | some z => exact absurd (by show (entL x.ents s).isSome = true; rw [hc]; rfl) h3
          · intro hk1
            rw [isDir_get hgn, hk1] at h4
            exact h4 rfl
    · rw [if_pos hu] at h; exact absurd h hu
theorem lnkR_good (hX : WF X) (d : Int) (s : Tx) (n : Int) : WF (lnkR X d s n).X ∧ totE (lnkR X d s n).X.l ≤ totE X.l + 1 := by
  unfold lnkR
  by_cases h : lnkE (qOf X.l) d s n = 0
  · rw [if_pos h]
    obtain ⟨xd, xn, hg, hk, hnm, he, hgn, hkn⟩ := lnkE_zero h
    obtain ⟨hm, hn⟩ := get_some hgn
    have h1 : n ≠ 1 := fun e => by
      obtain ⟨r, t, el, r1, r2⟩ := hX.rt
      have hr : r ∈ X.l := by rw [el]; exact List.mem_cons_self ..
      rw [hX.uniq hm hr (by rw [hn, e, r1])] at hkn
      exact hkn r2
    exact ⟨wfx_put (hX.x n) hg hk hnm he hgn h1 (fun h => absurd h hkn) (fun h => absurd h hkn), by show totE (putE X.l d s n) ≤ _; rw [tot_putE hX.srt hg]; omega⟩
  · rw [if_neg h]; exact ⟨hX, Nat.le_succ _⟩
theorem lnkO_X {d n : Int} {s : Tx} {e : Ending} (hX : WF X) (H : FsH fb mb ot L (hOf X) (qOf X.l) X.l.length T w) (hA : LnkO fb mb ot L (hOf X) (qOf X.l) X.l.length T d s n w e w') : e = .returned (.int .i64 (lnkR X d s n).e) ∧ OpO fb mb ot L X T (lnkR X d s n) w w' := by
  unfold lnkR
  rcases hA with ⟨h, rfl, hN⟩ | ⟨h, rfl, hM⟩
  · rw [if_neg h]
    exact ⟨rfl, opo_nw H hN⟩
  · rw [if_pos h]
    obtain ⟨xd, xn, hg, hk, hnm, he, hgn, hkn⟩ := lnkE_zero h
    refine ⟨rfl, ?_⟩
    unfold OpO
    have e1 : hOf { X with l := putE X.l d s n } = hOf X := by
      unfold hOf
      simp only
      have : heldF (putE X.l d s n) = heldF X.l := held_updL d (f := fun x => { x with ents := insE s n x.ents }) (fun _ => rfl)
      rw [this]
    have e2 : (putE X.l d s n).length = X.l.length := by unfold putE; rw [len_updL]
    have hdn : d ≠ n := fun e => by
      rw [e, hgn] at hg
      injection hg with hg
      rw [hg] at hkn; exact hkn hk
    simp only
    rw [e1, e2, q_putE hX.srt hg he hgn hdn (fun h => absurd h hkn)]
    exact hM
/-! ### Unlink, Rmdir -/
theorem remE_zero {d : Int} {s : Tx} {b : Bool} (h : remE (qOf X.l) d s b = 0) : ∃ xd xn, fndQ (qOf X.l) d s = ((fndQ (qOf X.l) d s).1, 0) ∧ get X.l d = some xd ∧ entL xd.ents s = some (fndQ (qOf X.l) d s).1 ∧ (∀ hX : WF X, get X.l (fndQ (qOf X.l) d s).1 = some xn ∧ xn.ents = [] ∧ d ≠ (fndQ (qOf X.l) d s).1) := by
  unfold remE at h
  by_cases h2 : (fndQ (qOf X.l) d s).2 = 0
  · rw [if_neg (fun h => h h2)] at h
    have hf : fndQ (qOf X.l) d s = ((fndQ (qOf X.l) d s).1, 0) := by rw [← h2]
    obtain ⟨pd, hpd, hk, he⟩ := fndQ_ok hf
    obtain ⟨x, hg, _, _, rfl⟩ := qOf_some hpd
    split at h
    · cases h
    · split at h
      · cases h
      · rename_i h4
        cases hgn : get X.l (fndQ (qOf X.l) d s).1 with
        | none =>
          refine ⟨x, x, hf, hg, he, fun hX => ?_⟩
          obtain ⟨xn, hgn2, _⟩ := wf_entOk hX hg he
          rw [hgn] at hgn2; cases hgn2
        | some xn =>
          refine ⟨x, xn, hf, hg, he, fun hX => ⟨rfl, ?_, (wf_entOk hX hg he).choose_spec.2.2.2.2.1⟩⟩
          rw [qOf_get hgn] at h4
          simp only [Option.map_some, Option.getD_some] at h4
          have h4 : ¬ xn.ents.length > 0 := h4
          exact List.eq_nil_of_length_eq_zero (by omega)
  · rw [if_pos h2] at h; exact absurd h h2
theorem remR_good (hX : WF X) (op d : Int) (s : Tx) (b : Bool) : WF (remR X op d s b).X ∧ totE (remR X op d s b).X.l ≤ totE X.l + 1 := by
  unfold remR
  by_cases h : remE (qOf X.l) d s b = 0
  · rw [if_pos h]
    obtain ⟨xd, xn, hf, hg, he, hh⟩ := remE_zero h
    obtain ⟨hgn, hxe, hdn⟩ := hh hX
    exact ⟨wf_lea hX hg he hgn hdn hxe, Nat.le_trans (tot_leaL _ _ _ _) (Nat.le_succ _)⟩
  · rw [if_neg h]; exact ⟨hX, Nat.le_succ _⟩
theorem lea_h (hX : WF X) {d n : Int} {s : Tx} {xd xn : Nd} (hd : get X.l d = some xd) (he : entL xd.ents s = some n) (hn : get X.l n = some xn) (hdn : d ≠ n) : hOf { X with l := leaL X.l d s n } = leaH (hOf X) (pnOf X.l xn) := by
  have h1 : (leaH (hOf X) (pnOf X.l xn)).held = (heldF (leaL X.l d s n) : Int) := (len_leaL hX hd he hn hdn).2.symm
  unfold leaH at h1 ⊢
  split at h1
  · rename_i hc
    rw [if_pos hc]
    unfold hOf at h1 ⊢
    simp only at h1 ⊢
    rw [h1]
  · rename_i hc
    rw [if_neg hc]
    unfold hOf at h1 ⊢
    simp only at h1 ⊢
    rw [h1]
theorem remO_X {op d : Int} {s : Tx} {b : Bool} {e : Ending} (hX : WF X) (H : FsH fb mb ot L (hOf X) (qOf X.l) X.l.length T w) (hA : RemO fb mb ot L (hOf X) (qOf X.l) X.l.length T op d s b w e w') : e = .returned (.int .i64 (remR X op d s b).e) ∧ OpO fb mb ot L X T (remR X op d s b) w w' := by
  unfold remR
  rcases hA with ⟨h, rfl, hN⟩ | ⟨h, rfl, n, pn, hfn, hqn, hM⟩
  · rw [if_neg h]
    exact ⟨rfl, opo_nw H hN⟩
  · rw [if_pos h]
    obtain ⟨xd, xn, hf, hg, he, hh⟩ := remE_zero h
    obtain ⟨hgn, hxe, hdn⟩ := hh hX
    refine ⟨rfl, ?_⟩
    unfold OpO
    have en : (fndQ (qOf X.l) d s).1 = n := by rw [hfn]
    rw [en] at he hgn hdn ⊢
    have epn : pn = pnOf X.l xn := by rw [qOf_get hgn] at hqn; injection hqn with hqn; exact hqn.symm
    rw [epn] at hM
    simp only
    rw [lea_h hX hg he hgn hdn, (len_leaL hX hg he hgn hdn).1, q_leaL hX hg he hgn hdn hxe]
    exact hM
/-! ### Bytes, metas -/
theorem dat_q (hX : WF X) {n : Int} {x : Nd} (hn : get X.l n = some x) (f : List By → List By) : qOf (datR X.l n f) = fun j => if j = n then some { pnOf X.l x with data := f x.data } else qOf X.l j := by
  have := q_upd hX.srt hn (f := fun x => { x with data := f x.data }) (fun _ => rfl) (fun _ => rfl)
  exact this
theorem tot_dat (l : List Nd) (n : Int) (f : List By → List By) : totE (datR l n f) = totE l := tot_same n (f := fun x => { x with data := f x.data }) (fun _ => rfl)
theorem dat_held (hX : WF X) {n : Int} {x : Nd} (hn : get X.l n = some x) (f : List By → List By) : heldF (datR X.l n f) + x.data.length = heldF X.l + (f x.data).length := sumF_updL (fun x => x.data.length) hX.srt hn (fun x => { x with data := f x.data })
theorem dat_wf (hX : WF X) {n : Int} {x : Nd} (hn : get X.l n = some x) (hk : x.kind = 2) (f : List By → List By) (hl : (f x.data).length ≤ 4194304) (hb : (heldF X.l : Int) + ((f x.data).length : Int) ≤ X.bytes + (x.data.length : Int)) : WF { X with l := datR X.l n f } := by
  obtain ⟨hm, _⟩ := get_some hn
  have hh := dat_held hX hn f
  refine wf_upd hX hn (f := fun x => { x with data := f x.data }) (fun _ => rfl) (fun _ => rfl) (fun _ => rfl) ?_ (by show (heldF (datR X.l n f) : Int) ≤ X.bytes; omega)
  obtain ⟨m, h⟩ := hX.kinds x hm
  refine ⟨m, ?_⟩
  rcases h with ⟨a, _⟩ | ⟨a, b, c, e⟩ | ⟨a, _⟩
  · omega
  · exact .inr (.inl ⟨a, hl, c, e⟩)
  · omega
theorem rszE_zero {n size : Int} (h : rszE (hOf X) (qOf X.l) n size = 0) : ∃ x, get X.l n = some x ∧ x.kind = 2 ∧ 0 ≤ size ∧ size ≤ 4194304 ∧ ¬ X.bytes - (heldF X.l : Int) < size - (x.data.length : Int) := by
  unfold rszE at h
  cases hq : qOf X.l n with
  | none => rw [hq] at h; cases h
  | some p =>
    rw [hq] at h
    obtain ⟨x, hg, _, _, rfl⟩ := qOf_some hq
    simp only at h
    split at h
    · cases h
    · rename_i h1
      split at h
      · cases h
      · rename_i h2
        split at h
        · cases h
        · rename_i h3
          refine ⟨x, hg, ?_, by omega, by omega, h3⟩
          by_cases hk : x.kind = 2
          · exact hk
          · exact absurd hk h2
theorem rszR_good (hX : WF X) (n size : Int) : WF (rszR X n size).X ∧ totE (rszR X n size).X.l ≤ totE X.l + 1 := by
  unfold rszR
  by_cases h : rszE (hOf X) (qOf X.l) n size = 0
  · rw [if_pos h]
    obtain ⟨x, hg, hk, h1, h2, h3⟩ := rszE_zero h
    refine ⟨dat_wf hX hg hk _ (by rw [rszD_len]; omega) (by rw [rszD_len]; omega), ?_⟩
    simp only [tot_dat]; omega
  · rw [if_neg h]; exact ⟨hX, Nat.le_succ _⟩
theorem rsO_X {n size : Int} {e : Ending} (hX : WF X) (H : FsH fb mb ot L (hOf X) (qOf X.l) X.l.length T w) (hA : RsO fb mb ot L (hOf X) (qOf X.l) X.l.length T n size w e w') : e = .returned (.int .i64 (rszR X n size).e) ∧ OpO fb mb ot L X T (rszR X n size) w w' := by
  unfold rszR
  rcases hA with ⟨h, rfl, hN⟩ | ⟨h, rfl, p, hqn, hM⟩
  · rw [if_neg h]
    exact ⟨rfl, opo_nw H hN⟩
  · rw [if_pos h]
    obtain ⟨x, hg, hk, h1, h2, h3⟩ := rszE_zero h
    refine ⟨rfl, ?_⟩
    have ep : p = pnOf X.l x := by rw [qOf_get hg] at hqn; injection hqn with hqn; exact hqn.symm
    rw [ep] at hM
    unfold OpO
    simp only
    have hh := dat_held hX hg (fun l => rszD l size.toNat)
    rw [rszD_len] at hh
    have e1 : hOf { X with l := datR X.l n (fun l => rszD l size.toNat) } = rszH (hOf X) (pnOf X.l x) size.toNat := by
      unfold hOf rszH
      simp only
      congr 1
      show (heldF (datR X.l n (fun l => rszD l size.toNat)) : Int) = (heldF X.l : Int) + ((size.toNat : Int) - (x.data.length : Int))
      omega
    have e2 : (datR X.l n (fun l => rszD l size.toNat)).length = X.l.length := len_updL ..
    rw [e1, e2, dat_q hX hg]
    exact hM
theorem wrE_zero {n pl : Int} {b : List By} (h : wrE (hOf X) (qOf X.l) n pl b = 0) : ∃ x, get X.l n = some x ∧ x.kind = 2 ∧ 0 ≤ pl ∧ pl + (b.length : Int) ≤ 4194304 ∧ ¬ (b ≠ [] ∧ X.bytes - (heldF X.l : Int) < max (x.data.length : Int) (pl + (b.length : Int)) - (x.data.length : Int)) := by
  unfold wrE at h
  cases hq : qOf X.l n with
  | none => rw [hq] at h; cases h
  | some p =>
    rw [hq] at h
    obtain ⟨x, hg, _, _, rfl⟩ := qOf_some hq
    simp only at h
    split at h
    · cases h
    · rename_i h1
      split at h
      · cases h
      · rename_i h2
        split at h
        · cases h
        · rename_i h3
          refine ⟨x, hg, ?_, by omega, by omega, h3⟩
          by_cases hk : x.kind = 2
          · exact hk
          · exact absurd hk h2
theorem wrD_len (l : List By) (A : Nat) (b : List By) : (wrD l A b).length = if b = [] then l.length else max l.length (A + b.length) := by
  unfold wrD
  by_cases h : b = []
  · rw [if_pos h, if_pos h]
  · rw [if_neg h, if_neg h, ovl_len, rszD_len]
    rw [rszD_len]; omega
theorem wr_held (hX : WF X) {n : Int} {x : Nd} (hg : get X.l n = some x) (pl : Int) (hp : 0 ≤ pl) (b : List By) : hOf { X with l := datR X.l n (fun l => wrD l pl.toNat b) } = wrH (hOf X) (pnOf X.l x) pl.toNat b := by
  have hh := dat_held hX hg (fun l => wrD l pl.toNat b)
  rw [wrD_len] at hh
  unfold wrH
  by_cases hb : b = []
  · rw [if_pos hb]
    rw [if_pos hb] at hh
    unfold hOf
    simp only
    congr 1
    omega
  · rw [if_neg hb]
    rw [if_neg hb] at hh
    unfold hOf rszH
    simp only
    congr 1
    show (heldF (datR X.l n (fun l => wrD l pl.toNat b)) : Int) = (heldF X.l : Int) + ((max x.data.length (pl.toNat + b.length) : Nat) - (x.data.length : Int))
    omega
theorem wrR_good (hX : WF X) (n pl : Int) (b : List By) : WF (wrR X n pl b).X ∧ totE (wrR X n pl b).X.l ≤ totE X.l + 1 := by
  unfold wrR
  by_cases h : wrE (hOf X) (qOf X.l) n pl b = 0
  · rw [if_pos h]
    obtain ⟨x, hg, hk, h1, h2, h3⟩ := wrE_zero h
    obtain ⟨hm, _⟩ := get_some hg
    have hl := (hX.kinds x hm).len
    have hh := hX.held
    refine ⟨dat_wf hX hg hk _ ?_ ?_, ?_⟩
    · rw [wrD_len]
      split
      · exact hl
      · omega
    · rw [wrD_len]
      split
      · omega
      · rename_i hb
        have h4 : ¬ X.bytes - (heldF X.l : Int) < max (x.data.length : Int) (pl + (b.length : Int)) - (x.data.length : Int) := fun h => h3 ⟨hb, h⟩
        omega
    · simp only [tot_dat]; omega
  · rw [if_neg h]; exact ⟨hX, Nat.le_succ _⟩
theorem wrO_X {n pl : Int} {b : List By} {e : Ending} (hX : WF X) (H : FsH fb mb ot L (hOf X) (qOf X.l) X.l.length T w) (hA : WrO fb mb ot L (hOf X) (qOf X.l) X.l.length T n pl b w e w') : e = .returned (.int .i64 (wrR X n pl b).e) ∧ OpO fb mb ot L X T (wrR X n pl b) w w' := by
  unfold wrR
  rcases hA with ⟨h, rfl, hN⟩ | ⟨h, rfl, p, hqn, hM⟩
  · rw [if_neg h]
    exact ⟨rfl, opo_nw H hN⟩
  · rw [if_pos h]
    obtain ⟨x, hg, hk, h1, h2, h3⟩ := wrE_zero h
    refine ⟨rfl, ?_⟩
    have ep : p = pnOf X.l x := by rw [qOf_get hg] at hqn; injection hqn with hqn; exact hqn.symm
    rw [ep] at hM
    unfold OpO
    simp only
    have e2 : (datR X.l n (fun l => wrD l pl.toNat b)).length = X.l.length := len_updL ..
    rw [wr_held hX hg pl h1, e2, dat_q hX hg]
    exact hM
theorem chE_zero {n : Int} {m : Mt} (h : chE (qOf X.l) n m = 0) : ∃ x, get X.l n = some x ∧ mtOk m = true := by
  unfold chE at h
  cases hq : qOf X.l n with
  | none => rw [hq] at h; cases h
  | some p =>
    rw [hq] at h
    obtain ⟨x, hg, _, _, rfl⟩ := qOf_some hq
    simp only at h
    split at h
    · rename_i hm; exact ⟨x, hg, hm⟩
    · cases h
theorem chR_good (hX : WF X) (n : Int) (m : Mt) : WF (chR X n m).X ∧ totE (chR X n m).X.l ≤ totE X.l + 1 := by
  unfold chR
  by_cases h : chE (qOf X.l) n m = 0
  · rw [if_pos h]
    obtain ⟨x, hg, hm⟩ := chE_zero h
    obtain ⟨hxm, _⟩ := get_some hg
    refine ⟨wf_upd hX hg (f := fun x => { x with mt := m }) (fun _ => rfl) (fun _ => rfl) (fun _ => rfl) ?_ ?_, ?_⟩
    · obtain ⟨_, h2⟩ := hX.kinds x hxm
      exact ⟨hm, h2⟩
    · have e : heldF (updL X.l n (fun x => { x with mt := m })) = heldF X.l := held_updL n (f := fun x => { x with mt := m }) (fun _ => rfl)
      rw [e]; exact hX.held
    · show totE (updL X.l n (fun x => { x with mt := m })) ≤ _
      rw [tot_same n (f := fun x => { x with mt := m }) (fun _ => rfl)]; omega
  · rw [if_neg h]; exact ⟨hX, Nat.le_succ _⟩
theorem chO_X {n : Int} {m : Mt} {e : Ending} (hX : WF X) (H : FsH fb mb ot L (hOf X) (qOf X.l) X.l.length T w) (hA : ChO fb mb ot L (hOf X) (qOf X.l) X.l.length T n m w e w') : e = .returned (.int .i64 (chR X n m).e) ∧ OpO fb mb ot L X T (chR X n m) w w' := by
  unfold chR
  rcases hA with ⟨h, rfl, hN⟩ | ⟨h, rfl, p, hqn, hM⟩
  · rw [if_neg h]
    exact ⟨rfl, opo_nw H hN⟩
  · rw [if_pos h]
    obtain ⟨x, hg, hm⟩ := chE_zero h
    refine ⟨rfl, ?_⟩
    have ep : p = pnOf X.l x := by rw [qOf_get hg] at hqn; injection hqn with hqn; exact hqn.symm
    rw [ep] at hM
    unfold OpO
    simp only
    have e0 : heldF (updL X.l n (fun x => { x with mt := m })) = heldF X.l := held_updL n (f := fun x => { x with mt := m }) (fun _ => rfl)
    have e1 : hOf { X with l := updL X.l n (fun x => { x with mt := m }) } = hOf X := by unfold hOf; simp only; rw [e0]
    have e2 : (updL X.l n (fun x => { x with mt := m })).length = X.l.length := len_updL ..
    rw [e1, e2, q_upd hX.srt hg (f := fun x => { x with mt := m }) (fun _ => rfl) (fun _ => rfl)]
    exact hM
/-! ### Rename -/
theorem tot_renR (hX : WF X) (d : Int) (s : Tx) (t : Int) (s2 : Tx) (hE : renE X.l d s t s2 = 0) : totE (renR X.l d s t s2) ≤ totE X.l + 1 := by
  obtain ⟨hu, h0, hst⟩ := renE_zero hE
  unfold renR
  by_cases hxy : entX X.l d s = entX X.l t s2
  · rw [if_pos hxy]; omega
  · rw [if_neg hxy]
    obtain ⟨xd, xt, xx, r⟩ := renF_of hX hu h0 hxy (hst hxy)
    obtain ⟨h1, xd1, xt1, xx1, r1, _⟩ := r.way1 hX
    have hw : totE (wayL X.l t s2 (entX X.l t s2)) ≤ totE X.l := by
      unfold wayL
      split
      · exact Nat.le_refl _
      · exact tot_leaL _ _ _ _
    have hr := tot_rmvE (wayL X.l t s2 (entX X.l t s2)) d s
    have hg : ∃ z, get (rmvE (wayL X.l t s2 (entX X.l t s2)) d s) t = some z := by
      rw [get_rmvE]
      split
      · rw [r1.ht]; exact ⟨_, rfl⟩
      · exact ⟨_, r1.ht⟩
    obtain ⟨z, hz⟩ := hg
    have hsr : Srt (rmvE (wayL X.l t s2 (entX X.l t s2)) d s) := srt_updL h1.srt d (fun _ => rfl)
    unfold renL
    rw [tot_putE hsr hz]
    omega
theorem rnR_good (hX : WF X) (d : Int) (s : Tx) (t : Int) (s2 : Tx) : WF (rnR X d s t s2).X ∧ totE (rnR X d s t s2).X.l ≤ totE X.l + 1 := by
  unfold rnR
  by_cases h : renE X.l d s t s2 = 0
  · rw [if_pos h]
    exact ⟨renR_wf hX h, tot_renR hX d s t s2 h⟩
  · rw [if_neg h]; exact ⟨hX, Nat.le_succ _⟩
theorem rnO_X {d : Int} {s : Tx} {t : Int} {s2 : Tx} {e : Ending} (H : FsH fb mb ot L (hOf X) (qOf X.l) X.l.length T w) (hA : RnO fb mb ot L X T d s t s2 w e w') : e = .returned (.int .i64 (rnR X d s t s2).e) ∧ OpO fb mb ot L X T (rnR X d s t s2) w w' := by
  unfold rnR
  rcases hA with ⟨h, rfl, hN⟩ | ⟨h, rfl, hM⟩
  · rw [if_neg h]
    exact ⟨rfl, opo_nw H hN⟩
  · rw [if_pos h]
    exact ⟨rfl, hM⟩
end Go.Proofs.YtcogkhcfpgelhaaGreat

import Derived.Test.YtcogkhcfpgelhaaGreatVar
import Derived.Test.YtcogkhcfpgelhaaGreatVaq
namespace Go.Proofs.YtcogkhcfpgelhaaGreat
open Go.RowKit
set_option linter.unusedVariables false
theorem nmsB_none {l : List Nd} {n : Int} (h : lks l n = 0) : ∀ x ∈ l, nmsB x n = false := fun x hx => by
  have h2 := sumF_mem (fun x => nameN x.ents n) hx
  unfold lks at h
  rw [lkS_sum] at h
  cases hb : nmsB x n with
  | false => rfl
  | true =>
    have := nmsB_iff.1 hb
    omega
theorem insE_fun {es : List (Tx × Int)} {s : Tx} (n : Int) (h : entL es s = none) : entL (insE s n es) = fun x => if x = s then some n else entL es x := funext fun k => entL_insE es s n h k
theorem delE_fun (es : List (Tx × Int)) (s : Tx) : entL (delE s es) = fun x => if x = s then none else entL es x := funext fun k => entL_delE es s k
theorem pnOf_eq {l l' : List Nd} {x : Nd} (h1 : lks l' x.num = lks l x.num) (h2 : x.kind = 1 → upF l' x.num = upF l x.num) : pnOf l' x = pnOf l x := by
  unfold pnOf
  rw [h1]
  by_cases hk : x.kind = 1
  · rw [if_pos hk, if_pos hk, h2 hk]
  · rw [if_neg hk, if_neg hk]
theorem q_putE {l : List Nd} (hs : Srt l) {d n : Int} {s : Tx} {xd xn : Nd} (hd : get l d = some xd) (he : entL xd.ents s = none) (hn : get l n = some xn) (hdn : d ≠ n) (hk : xn.kind = 1 → lks l n = 0) : qOf (putE l d s n) = entQ (qOf l) d s n := by
  obtain ⟨xdm, xdn⟩ := get_some hd
  obtain ⟨xnm, xnn⟩ := get_some hn
  have lk := fun k => lks_putE hs (n := n) hd s k
  have up : ∀ k, k ≠ n → upF (putE l d s n) k = upF l k := fun k hkn => upF_updL (fun _ => rfl) (fun x _ _ => nmsB_insE x s (fun e => hkn e.symm))
  funext k
  unfold entQ
  by_cases h1 : k = n
  · subst h1
    rw [if_pos rfl]
    have hg : get (putE l d s k) k = some xn := by rw [get_putE, if_neg (fun e => hdn e.symm)]; exact hn
    rw [qOf_get hg, qOf_get hn]
    simp only [Option.map_some, Option.some.injEq]
    unfold pnOf named1
    simp only [xnn, lk, if_true]
    congr 1
    by_cases hk1 : xn.kind = 1
    · rw [if_pos hk1, if_pos hk1]
      have h0 := nmsB_none (hk hk1)
      refine upF_of ⟨_, updL_mem xdm, ?_⟩ (fun y hy hb => ?_)
      · rw [if_pos xdn, nmsB_iff]
        simp only [nameN_insE]
        simp
      · obtain ⟨x, hx, e1, _, _, _, _, e6⟩ := mem_putE hy
        rcases e6 with ⟨e6, _⟩ | ⟨_, rfl⟩
        · rw [← e1]; exact e6
        · rw [h0 y hx] at hb; cases hb
    · rw [if_neg hk1, if_neg hk1, if_neg hk1]
  · rw [if_neg h1]
    by_cases h2 : k = d
    · subst h2
      rw [if_pos rfl]
      have hg : get (putE l k s n) k = some { xd with ents := insE s n xd.ents } := by rw [get_putE, if_pos rfl, hd]; rfl
      rw [qOf_get hg, qOf_get hd]
      simp only [Option.map_some, Option.some.injEq]
      unfold pnOf putEnt
      simp only [xdn, lk, up k h1, insE_length, insE_fun n he]
      rw [if_neg (fun e => h1 e.symm)]
      rfl
    · rw [if_neg h2]
      have hg : get (putE l d s n) k = get l k := by rw [get_putE, if_neg h2]
      unfold qOf
      rw [hg]
      cases hx : get l k with
      | none => rfl
      | some x =>
        have hxn := (get_some hx).2
        simp only [Option.map_some, Option.some.injEq]
        refine pnOf_eq ?_ (fun _ => ?_)
        · rw [hxn, lk, if_neg (fun e => h1 e.symm)]; rfl
        · rw [hxn]; exact up k h1
theorem q_add {X : Im} (h : WF X) {d : Int} {s : Tx} {xd : Nd} (hd : get X.l d = some xd) (he : entL xd.ents s = none) (kd : Int) (mt : Mt) (tgt : Tx) : qOf (putE (X.l ++ [⟨X.next, kd, mt, [], tgt, []⟩]) d s X.next) = addQ (qOf X.l) d s X.next (newP kd mt tgt) := by
  obtain ⟨xdm, xdn⟩ := get_some hd
  have hfr := get_fresh h.nums
  have hnum := h.nums xd xdm
  have hl0 := lks_fresh h
  obtain ⟨y, hy⟩ : ∃ y : Nd, y = ⟨X.next, kd, mt, [], tgt, []⟩ := ⟨_, rfl⟩
  rw [← hy]
  have hye : y.ents = [] := by rw [hy]
  have hyn : y.num = X.next := by rw [hy]
  have hs : Srt (X.l ++ [y]) := by
    rw [Srt, List.pairwise_append]
    refine ⟨h.srt, List.pairwise_singleton .., fun a ha b hb => ?_⟩
    have : b = y := by simpa using hb
    rw [this, hyn]
    exact (h.nums a ha).2
  have hgd : get (X.l ++ [y]) d = some xd := by rw [get_append, hd]; rfl
  have hgn : get (X.l ++ [y]) X.next = some y := by
    rw [get_append, hfr]
    unfold get
    simp [hyn]
  have hlk : lks (X.l ++ [y]) X.next = 0 := by rw [lks_append _ hye, hl0]
  rw [q_putE hs hgd he hgn (by omega) (fun _ => hlk)]
  unfold addQ
  funext k
  unfold entQ
  by_cases h1 : k = X.next
  · rw [if_pos h1, if_pos h1, qOf_get hgn]
    unfold withQ
    rw [if_pos rfl]
    simp only [Option.map_some, Option.some.injEq]
    unfold pnOf named1
    simp only [hyn, hlk]
    rw [hy]
    simp only
    have : entL ([] : List (Tx × Int)) = fun _ => none := by funext x; rfl
    rw [this]
    congr 1
    by_cases hk1 : kd = 1
    · rw [if_pos hk1, if_pos hk1]
    · rw [if_neg hk1, if_neg hk1, if_neg hk1]
  · rw [if_neg h1, if_neg h1]
    have hq : ∀ j, j ≠ X.next → qOf (X.l ++ [y]) j = qOf X.l j := fun j hj => by
      unfold qOf
      have hg : get (X.l ++ [y]) j = get X.l j := by
        rw [get_append]
        have : get [y] j = none := by unfold get; simp [hyn]; exact fun e => hj e.symm
        rw [this]; simp
      rw [hg]
      cases hx : get X.l j with
      | none => rfl
      | some x =>
        simp only [Option.map_some, Option.some.injEq]
        refine pnOf_eq (lks_append _ hye _) (fun _ => upF_append ?_)
        unfold nmsB; rw [hye]; rfl
    have hw : ∀ j, j ≠ X.next → withQ (qOf X.l) X.next (newP kd mt tgt) j = qOf X.l j := fun j hj => by unfold withQ; rw [if_neg hj]
    by_cases h2 : k = d
    · rw [if_pos h2, if_pos h2, hq d (by omega), hw d (by omega)]
    · rw [if_neg h2, if_neg h2, hq k h1, hw k h1]
/-- All but the entry's own inode stays, but for the directory's entries. -/
theorem q_rmvE {l : List Nd} (hs : Srt l) {d n : Int} {s : Tx} {xd : Nd} (hd : get l d = some xd) (hx : xd.ents.Pairwise (fun a b => lt a.1 b.1 = true)) (he : entL xd.ents s = some n) (k : Int) (hk : k ≠ n) : qOf (rmvE l d s) k = if k = d then (qOf l d).map (delEnt · s) else qOf l k := by
  obtain ⟨xdm, xdn⟩ := get_some hd
  have lk := fun k => lks_rmvE hs hd hx he k
  have hlk : lks (rmvE l d s) k = lks l k := by have := lk k; rw [if_neg (fun e => hk e.symm)] at this; omega
  have up : upF (rmvE l d s) k = upF l k := upF_updL (fun _ => rfl) (fun x hxm hxd => by
    have : x = xd := by
      have := get_mem hs hxm
      rw [hxd, hd] at this
      injection this with this
      exact this.symm
    rw [this]
    exact nmsB_delE hx he (fun e => hk e.symm))
  by_cases h2 : k = d
  · subst h2
    rw [if_pos rfl]
    have hg : get (rmvE l k s) k = some { xd with ents := delE s xd.ents } := by rw [get_rmvE, if_pos rfl, hd]; rfl
    rw [qOf_get hg, qOf_get hd]
    simp only [Option.map_some, Option.some.injEq]
    unfold pnOf delEnt
    have hl := delE_length hx s
    rw [he] at hl
    simp only [Option.isSome_some, if_true] at hl
    have hl2 : (delE s xd.ents).length = xd.ents.length - 1 := by omega
    simp only [xdn, hlk, up, hl2, delE_fun]
  · rw [if_neg h2]
    have hg : get (rmvE l d s) k = get l k := by rw [get_rmvE, if_neg h2]
    unfold qOf
    rw [hg]
    cases hx : get l k with
    | none => rfl
    | some x =>
      have hxn := (get_some hx).2
      simp only [Option.map_some, Option.some.injEq]
      exact pnOf_eq (by rw [hxn]; exact hlk) (fun _ => by rw [hxn]; exact up)
theorem q_dropL {l : List Nd} (hs : Srt l) {n : Int} {xn : Nd} (hn : get l n = some xn) (hx : xn.ents = []) (k : Int) : qOf (dropL l n) k = if k = n then none else qOf l k := by
  unfold qOf
  rw [get_dropL]
  by_cases h : k = n
  · rw [if_pos h, if_pos h]; rfl
  · rw [if_neg h, if_neg h]
    cases hg : get l k with
    | none => rfl
    | some x =>
      simp only [Option.map_some, Option.some.injEq]
      refine pnOf_eq (lkS_dropL hs hn hx _) (fun _ => upF_dropL (fun y hy hyn => ?_))
      have : y = xn := by
        have := get_mem hs hy
        rw [hyn, hn] at this
        injection this with this
        exact this.symm
      unfold nmsB
      rw [this, hx]; rfl
theorem get_rmv_other {l : List Nd} {d n : Int} {s : Tx} {xn : Nd} (hn : get l n = some xn) (hdn : d ≠ n) : get (rmvE l d s) n = some xn := by rw [get_rmvE, if_neg (fun e => hdn e.symm)]; exact hn
theorem q_leaL {X : Im} (h : WF X) {d n : Int} {s : Tx} {xd xn : Nd} (hd : get X.l d = some xd) (he : entL xd.ents s = some n) (hn : get X.l n = some xn) (hdn : d ≠ n) (hx : xn.ents = []) : qOf (leaL X.l d s n) = leaQ (qOf X.l) d s n (pnOf X.l xn) := by
  obtain ⟨xdm, xdn⟩ := get_some hd
  obtain ⟨xnm, xnn⟩ := get_some hn
  have hxs := h.esrt xd xdm
  have lk := lks_rmvE h.srt hd hxs he n
  rw [if_pos rfl] at lk
  have hlinks : (pnOf X.l xn).links = (lks X.l n : Int) := by unfold pnOf; simp only [xnn]
  have hgn := get_rmv_other (d := d) (s := s) hn hdn
  funext k
  unfold leaQ leaL
  rw [hlinks]
  by_cases h0 : lks (rmvE X.l d s) n = 0
  · rw [if_pos h0, q_dropL (l := rmvE X.l d s) (srt_updL h.srt d (fun _ => rfl)) hgn hx]
    by_cases h1 : k = n
    · rw [if_pos h1, if_pos h1, if_pos (by omega)]
    · rw [if_neg h1, if_neg h1, q_rmvE h.srt hd hxs he k h1]
  · rw [if_neg h0]
    by_cases h1 : k = n
    · subst h1
      rw [if_pos rfl, if_neg (by omega), qOf_get hgn]
      congr 1
      have hk1 : xn.kind ≠ 1 := fun hk1 => by
        have := h.lkd xn xnm hk1
        rw [xnn] at this
        omega
      unfold pnOf unnam
      simp only [xnn]
      rw [if_neg hk1, if_neg hk1]
      congr 1
      omega
    · rw [if_neg h1, q_rmvE h.srt hd hxs he k h1]
theorem len_leaL {X : Im} (h : WF X) {d n : Int} {s : Tx} {xd xn : Nd} (hd : get X.l d = some xd) (he : entL xd.ents s = some n) (hn : get X.l n = some xn) (hdn : d ≠ n) : (leaL X.l d s n).length = leaN X.l.length (pnOf X.l xn) ∧ (heldF (leaL X.l d s n) : Int) = (leaH (hOf X) (pnOf X.l xn)).held := by
  obtain ⟨xdm, xdn⟩ := get_some hd
  obtain ⟨xnm, xnn⟩ := get_some hn
  have hxs := h.esrt xd xdm
  have lk := lks_rmvE h.srt hd hxs he n
  rw [if_pos rfl] at lk
  have hlinks : (pnOf X.l xn).links = (lks X.l n : Int) := by unfold pnOf; simp only [xnn]
  have hgn := get_rmv_other (d := d) (s := s) hn hdn
  have hsr : Srt (rmvE X.l d s) := srt_updL h.srt d (fun _ => rfl)
  have hl : (rmvE X.l d s).length = X.l.length := len_updL ..
  have hh : heldF (rmvE X.l d s) = heldF X.l := held_updL d (f := fun x => { x with ents := delE s x.ents }) (fun _ => rfl)
  unfold leaL leaN leaH
  rw [hlinks]
  by_cases h0 : lks (rmvE X.l d s) n = 0
  · rw [if_pos h0, if_pos (by omega), if_pos (by omega)]
    have s1 := sumF_dropL (fun _ => 1) hsr hgn
    have s2 := sumF_dropL (fun x => x.data.length) hsr hgn
    rw [← len_sum, ← len_sum] at s1
    have e1 : heldF (dropL (rmvE X.l d s) n) = sumF (fun x => x.data.length) (dropL (rmvE X.l d s) n) := rfl
    have e2 : heldF (rmvE X.l d s) = sumF (fun x => x.data.length) (rmvE X.l d s) := rfl
    refine ⟨by omega, ?_⟩
    show (heldF (dropL (rmvE X.l d s) n) : Int) = (heldF X.l : Int) - (xn.data.length : Int)
    omega
  · rw [if_neg h0, if_neg (by omega), if_neg (by omega)]
    exact ⟨hl, by show (heldF (rmvE X.l d s) : Int) = (heldF X.l : Int); rw [hh]⟩
theorem wf_lea {X : Im} (h : WF X) {d n : Int} {s : Tx} {xd xn : Nd} (hd : get X.l d = some xd) (he : entL xd.ents s = some n) (hn : get X.l n = some xn) (hdn : d ≠ n) (hx : xn.ents = []) : WF { X with l := leaL X.l d s n } := by
  obtain ⟨xdm, xdn⟩ := get_some hd
  obtain ⟨xnm, xnn⟩ := get_some hn
  have lk := lks_rmvE h.srt hd (h.esrt xd xdm) he n
  rw [if_pos rfl] at lk
  have h1 : n ≠ 1 := (h.es xd xdm _ (entL_some he)).2.1
  have hw := wf_rmv h hd he
  have hgn := get_rmv_other (d := d) (s := s) hn hdn
  unfold leaL
  by_cases h0 : lks (rmvE X.l d s) n = 0
  · rw [if_pos h0]
    exact wfx_drop hw hgn h1 h0 hx
  · rw [if_neg h0]
    refine wfx_full hw hgn (by show 1 ≤ lks (rmvE X.l d s) n; omega) (fun hk1 => ?_)
    have := h.lkd xn xnm hk1
    rw [xnn] at this
    omega
/-! ### Up, and being within -/
theorem up_of {X : Im} (h : WF X) {a b : Int} {x y : Nd} (hx : x ∈ X.l) (hxa : x.num = a) (hb : nmsB x b = true) (hy : y ∈ X.l) (hyb : y.num = b) (hk : y.kind = 1) : upF X.l b = a := by
  refine upF_of ⟨x, hx, hb⟩ (fun z hz hzb => ?_)
  by_cases hne : z.num = x.num
  · rw [hne, hxa]
  · have h1 := sumF_two (g := fun x => nameN x.ents b) h.srt hz hx hne
    have h2 := nmsB_iff.1 hb
    have h3 := nmsB_iff.1 hzb
    have h4 := h.lkd y hy hk
    rw [hyb] at h4
    unfold lks at h4
    rw [lkS_sum] at h4
    omega
/-- Each directory but the root has an entry. -/
theorem WF.parent {X : Im} (h : WF X) {y : Nd} (hy : y ∈ X.l) (hk : y.kind = 1) (h1 : y.num ≠ 1) : ∃ x ∈ X.l, x.kind = 1 ∧ nmsB x y.num = true ∧ upF X.l y.num = x.num := by
  have h2 := h.lk1 y hy
  unfold lks at h2
  rw [if_neg h1, lkS_sum] at h2
  obtain ⟨x, hx, hg⟩ := sumF_pos (g := fun x => nameN x.ents y.num) (l := X.l) (by omega)
  have hb : nmsB x y.num = true := nmsB_iff.2 hg
  refine ⟨x, hx, ?_, hb, up_of h hx rfl hb hy rfl hk⟩
  by_cases hxk : x.kind = 1
  · exact hxk
  · have := (h.kinds x hx).noents hxk
    simp only [this, nameN_nil] at hg
    omega
end Go.Proofs.YtcogkhcfpgelhaaGreat

namespace Go.Proofs.YtcogkhcfpgelhaaGreat
open Go.RowKit
set_option linter.unusedVariables false
/-- What is within a directory, in the program's words. -/
theorem wf_rkd {X : Im} (h : WF X) : ∃ rk : Int → Nat, Rkd (qOf X.l) rk ∧ ∀ t d : Int, ∀ y ∈ X.l, y.num = d → y.kind = 1 → ∀ k, rk d ≤ k → (inW (qOf X.l) k d t = true ↔ Sub X.l t d) := by
  obtain ⟨rk, hrk⟩ := h.rk
  have hup : ∀ y ∈ X.l, y.kind = 1 → y.num ≠ 1 → ∃ x ∈ X.l, x.kind = 1 ∧ upF X.l y.num = x.num ∧ rk x.num < rk y.num ∧ Ch X.l x.num y.num := fun y hy hk h1 => by
    obtain ⟨x, hx, hxk, hb, hu⟩ := h.parent hy hk h1
    obtain ⟨e, he, he2⟩ := nameN_pos.1 (nmsB_iff.1 hb)
    exact ⟨x, hx, hxk, hu, hrk x hx e he y hy he2.symm hk, x, hx, rfl, hb, y, hy, rfl, hk⟩
  refine ⟨rk, fun d p hq hk hd1 => ?_, fun t d y hy hyd hk k hrkk => ?_⟩
  · obtain ⟨y, hg, hy, hyd, rfl⟩ := qOf_some hq
    have hk' : y.kind = 1 := hk
    obtain ⟨x, hx, hxk, hu, hr, _⟩ := hup y hy hk' (by rw [hyd]; exact hd1)
    have hpu : (pnOf X.l y).up = x.num := by unfold pnOf; simp only; rw [if_pos hk', hu]
    rw [hpu]
    have hnx := h.nums x hx
    have hx2 := h.x2
    refine ⟨⟨by omega, by omega⟩, by rw [← hyd]; exact hr, pnOf X.l x, qOf_get (h.get hx), hxk⟩
  · constructor
    · induction k generalizing d y with
      | zero =>
        intro hw
        unfold inW at hw
        have : d = t := by simpa using hw
        rw [this]; exact .refl
      | succ k ih =>
        intro hw
        unfold inW at hw
        split at hw
        · rename_i e; rw [e]; exact .refl
        · split at hw
          · cases hw
          · rename_i hd1
            have hg := h.get hy
            rw [hyd] at hg
            rw [qOf_get hg] at hw
            obtain ⟨x, hx, hxk, hu, hr, hch⟩ := hup y hy hk (by rw [hyd]; exact hd1)
            have hpu : (pnOf X.l y).up = x.num := by unfold pnOf; simp only; rw [if_pos hk, hu]
            simp only [hpu] at hw
            have := ih x.num x hx rfl hxk (by rw [hyd] at hr; omega) hw
            rw [← hyd]
            exact this.step hch
    · intro hs
      induction hs generalizing k y with
      | refl =>
        cases k with
        | zero => unfold inW; simp
        | succ k => unfold inW; simp
      | step hsa hch ih =>
        rename_i a b
        obtain ⟨x, hx, hxa, hb, y', hy', hyb', hk'⟩ := hch
        have hyy : y = y' := h.uniq hy hy' (by rw [hyd, hyb'])
        obtain ⟨e, he, he2⟩ := nameN_pos.1 (nmsB_iff.1 hb)
        have hb1 : b ≠ 1 := by have := (h.es x hx e he).2.1; rw [he2] at this; exact this
        have hr := hrk x hx e he y hy (by rw [he2, hyd]) hk
        have hu := up_of h hx hxa hb hy hyd hk
        have hxk : x.kind = 1 := by
          by_cases hxk : x.kind = 1
          · exact hxk
          · rw [(h.kinds x hx).noents hxk] at he; cases he
        cases k with
        | zero => rw [hyd] at hr; omega
        | succ k =>
          unfold inW
          by_cases hbt : b = t
          · rw [if_pos hbt]
          · rw [if_neg hbt, if_neg hb1]
            have hg := h.get hy
            rw [hyd] at hg
            rw [qOf_get hg]
            have hpu : (pnOf X.l y).up = a := by unfold pnOf; simp only [hyd]; rw [if_pos hk, hu]
            simp only [hpu]
            exact ih x hx hxa hxk k (by rw [hyd, hxa] at hr; omega)
/-! ### Rename -/
def renL (l : List Nd) (d : Int) (s : Tx) (t : Int) (s2 : Tx) (x : Int) : List Nd := putE (rmvE l d s) t s2 x
theorem ch_rmvE {l : List Nd} {d : Int} {s : Tx} {a b : Int} (h : Ch (rmvE l d s) a b) : Ch l a b := by
  obtain ⟨x, hx, hxa, hb, y, hy, hyb, hk⟩ := h
  obtain ⟨x', hx', e1, _, _, _, _, e6, _⟩ := mem_rmvE hx
  obtain ⟨y', hy', f1, f2, _⟩ := mem_rmvE hy
  obtain ⟨e, he, he2⟩ := nameN_pos.1 (nmsB_iff.1 hb)
  exact ⟨x', hx', by rw [e1, hxa], by rw [nmsB_iff, nameN_pos]; exact ⟨e, e6 e he, he2⟩, y', hy', by rw [f1, hyb], by rw [f2, hk]⟩
theorem ch_dropL {l : List Nd} {n a b : Int} (h : Ch (dropL l n) a b) : Ch l a b := by
  obtain ⟨x, hx, hxa, hb, y, hy, hyb, hk⟩ := h
  exact ⟨x, (mem_dropL.1 hx).1, hxa, hb, y, (mem_dropL.1 hy).1, hyb, hk⟩
theorem ch_leaL {l : List Nd} {d n a b : Int} {s : Tx} (h : Ch (leaL l d s n) a b) : Ch l a b := by
  unfold leaL at h
  split at h
  · exact ch_rmvE (ch_dropL h)
  · exact ch_rmvE h
structure Ren (X : Im) (d : Int) (s : Tx) (t : Int) (s2 : Tx) (x : Int) (xd xt xx : Nd) : Prop where
  hd : get X.l d = some xd
  ht : get X.l t = some xt
  hx : get X.l x = some xx
  he : entL xd.ents s = some x
  hf : entL xt.ents s2 = none
  kt : xt.kind = 1
  nm : nmOk s2 = true
  ns : xx.kind = 1 → ¬ Sub X.l x t
theorem wf_noself {X : Im} (h : WF X) {d x : Int} {s : Tx} {xd : Nd} (hd : get X.l d = some xd) (he : entL xd.ents s = some x) : d ≠ x := by
  intro e
  obtain ⟨hm, hn⟩ := get_some hd
  have hk : xd.kind = 1 := by
    by_cases hk : xd.kind = 1
    · exact hk
    · rw [(h.kinds xd hm).noents hk] at he; cases he
  obtain ⟨rk, hrk⟩ := h.rk
  have := hrk xd hm _ (entL_some he) xd hm (by rw [hn, e]) hk
  omega
theorem Ren.wf {X : Im} (h : WF X) {d : Int} {s : Tx} {t : Int} {s2 : Tx} {x : Int} {xd xt xx : Nd} (r : Ren X d s t s2 x xd xt xx) : WF { X with l := renL X.l d s t s2 x } := by
  obtain ⟨xdm, xdn⟩ := get_some r.hd
  obtain ⟨xxm, xxn⟩ := get_some r.hx
  have hdx := wf_noself h r.hd r.he
  have h1 : x ≠ 1 := (h.es xd xdm _ (entL_some r.he)).2.1
  have lk := lks_rmvE h.srt r.hd (h.esrt xd xdm) r.he x
  rw [if_pos rfl] at lk
  have hw := wf_rmv h r.hd r.he
  have hgx := get_rmv_other (d := d) (s := s) r.hx hdx
  have hns : xx.kind = 1 → ¬ Sub (rmvE X.l d s) x t := fun hk hs => r.ns hk (hs.mono (fun a b => ch_rmvE))
  have hlk : xx.kind = 1 → lks (rmvE X.l d s) x = 0 := fun hk => by
    have := h.lkd xx xxm hk
    rw [xxn] at this; omega
  by_cases htd : t = d
  · subst htd
    have hxt : xd = xt := by have := r.hd; rw [r.ht] at this; injection this with this; exact this.symm
    have hgt : get (rmvE X.l t s) t = some { xd with ents := delE s xd.ents } := by rw [get_rmvE, if_pos rfl, r.hd]; rfl
    refine wfx_put hw hgt (by rw [hxt]; exact r.kt) r.nm ?_ hgx h1 hlk hns
    show entL (delE s xd.ents) s2 = none
    rw [entL_delE]
    split
    · rfl
    · rw [hxt]; exact r.hf
  · have hgt : get (rmvE X.l d s) t = some xt := get_rmv_other r.ht (fun e => htd e.symm)
    exact wfx_put hw hgt r.kt r.nm r.hf hgx h1 hlk hns
theorem Ren.q {X : Im} (h : WF X) {d : Int} {s : Tx} {t : Int} {s2 : Tx} {x : Int} {xd xt xx : Nd} (r : Ren X d s t s2 x xd xt xx) (hxt : x ≠ t) : qOf (renL X.l d s t s2 x) = leaQ (entQ (qOf X.l) t s2 x) d s x (named1 (pnOf X.l xx) t) := by
  obtain ⟨xdm, xdn⟩ := get_some r.hd
  obtain ⟨xtm, xtn⟩ := get_some r.ht
  obtain ⟨xxm, xxn⟩ := get_some r.hx
  have hdx := wf_noself h r.hd r.he
  have hxs := h.esrt xd xdm
  have lk := lks_rmvE h.srt r.hd hxs r.he x
  rw [if_pos rfl] at lk
  have hl1 := h.lk1 xx xxm
  rw [xxn] at hl1
  have hgx := get_rmv_other (d := d) (s := s) r.hx hdx
  have hlk : xx.kind = 1 → lks (rmvE X.l d s) x = 0 := fun hk => by
    have := h.lkd xx xxm hk
    rw [xxn] at this; omega
  have hss : Srt (rmvE X.l d s) := srt_updL h.srt d (fun _ => rfl)
  have hlinks : (named1 (pnOf X.l xx) t).links = (lks X.l x : Int) + 1 := by unfold named1 pnOf; simp only [xxn]
  have hq2 := fun k hk => q_rmvE h.srt r.hd hxs r.he k hk
  have key : ∀ xt2 : Nd, get (rmvE X.l d s) t = some xt2 → entL xt2.ents s2 = none → qOf (renL X.l d s t s2 x) = leaQ (entQ (qOf X.l) t s2 x) d s x (named1 (pnOf X.l xx) t) := fun xt2 hgt hf2 => by
    unfold renL
    rw [q_putE hss hgt hf2 hgx (fun e => hxt e.symm) hlk]
    funext k
    unfold leaQ
    rw [if_neg (show ¬ (named1 (pnOf X.l xx) t).links = 1 by rw [hlinks]; omega)]
    by_cases h1 : k = x
    · subst h1
      rw [if_pos rfl]
      unfold entQ
      rw [if_pos rfl, qOf_get hgx]
      simp only [Option.map_some, Option.some.injEq]
      unfold unnam named1 pnOf
      simp only [xxn]
      by_cases hk1 : xx.kind = 1
      · simp only [if_pos hk1]; congr 1; omega
      · simp only [if_neg hk1]; congr 1; omega
    · rw [if_neg h1]
      by_cases h2 : k = d
      · subst h2
        rw [if_pos rfl]
        unfold entQ
        rw [if_neg h1, if_neg h1, hq2 k h1, if_pos rfl]
        by_cases h3 : k = t
        · subst h3
          rw [if_pos rfl, if_pos rfl, hq2 k h1, if_pos rfl, qOf_get r.hd]
          simp only [Option.map_some, Option.some.injEq]
          have hxe : xd = xt := by have := r.hd; rw [r.ht] at this; injection this with this; exact this.symm
          have hne : s ≠ s2 := fun e => by
            have h4 := r.he
            rw [hxe, e, r.hf] at h4; cases h4
          have hpos : 1 ≤ xd.ents.length := by
            have := entL_some r.he
            exact List.length_pos_of_mem this
          unfold putEnt delEnt pnOf
          simp only
          congr 1
          · funext z
            by_cases hz : z = s2
            · rw [if_pos hz, if_neg (fun e => hne (e.symm.trans hz)), if_pos hz]
            · rw [if_neg hz, if_neg hz]
          · omega
        · rw [if_neg h3, if_neg h3]
      · rw [if_neg h2]
        unfold entQ
        rw [if_neg h1, if_neg h1]
        by_cases h3 : k = t
        · subst h3
          rw [if_pos rfl, if_pos rfl, hq2 k h1, if_neg h2]
        · rw [if_neg h3, if_neg h3, hq2 k h1, if_neg h2]
  by_cases htd : t = d
  · subst htd
    have hxe : xd = xt := by have := r.hd; rw [r.ht] at this; injection this with this; exact this.symm
    refine key { xd with ents := delE s xd.ents } (by rw [get_rmvE, if_pos rfl, r.hd]; rfl) ?_
    show entL (delE s xd.ents) s2 = none
    rw [entL_delE]
    split
    · rfl
    · rw [hxe]; exact r.hf
  · exact key xt (get_rmv_other r.ht (fun e => htd e.symm)) r.hf
theorem ren_len (l : List Nd) (d : Int) (s : Tx) (t : Int) (s2 : Tx) (x : Int) : (renL l d s t s2 x).length = l.length ∧ heldF (renL l d s t s2 x) = heldF l := by
  have e1 : heldF (putE (rmvE l d s) t s2 x) = heldF (rmvE l d s) := held_updL t (f := fun y => { y with ents := insE s2 x y.ents }) (fun _ => rfl)
  have e2 : heldF (rmvE l d s) = heldF l := held_updL d (f := fun x => { x with ents := delE s x.ents }) (fun _ => rfl)
  unfold renL
  refine ⟨?_, by rw [e1, e2]⟩
  unfold putE rmvE
  rw [len_updL, len_updL]
/-! ### Content -/
theorem q_upd {l : List Nd} (hs : Srt l) {n : Int} {xn : Nd} (hn : get l n = some xn) {f : Nd → Nd} (f1 : ∀ x, (f x).num = x.num) (f3 : ∀ x, (f x).ents = x.ents) : qOf (updL l n f) = fun k => if k = n then some (pnOf l (f xn)) else qOf l k := by
  have lk : ∀ k, lks (updL l n f) k = lks l k := fun k => by
    have := sumF_updL (fun x => nameN x.ents k) hs hn f
    simp only [f3] at this
    unfold lks
    rw [lkS_sum, lkS_sum]
    omega
  have up : ∀ k, upF (updL l n f) k = upF l k := fun k => upF_updL f1 (fun x _ _ => by unfold nmsB; rw [f3])
  funext k
  unfold qOf
  rw [get_updL _ _ _ _ f1]
  by_cases h : k = n
  · rw [if_pos h, if_pos h, h, hn]
    simp only [Option.map_some, Option.some.injEq]
    exact pnOf_eq (lk _) (fun _ => up _)
  · rw [if_neg h, if_neg h]
    cases hg : get l k with
    | none => rfl
    | some x =>
      simp only [Option.map_some, Option.some.injEq]
      exact pnOf_eq (lk _) (fun _ => up _)
end Go.Proofs.YtcogkhcfpgelhaaGreat

namespace Go.Proofs.YtcogkhcfpgelhaaGreat
open Go.RowKit
set_option linter.unusedVariables false
/-! ### Going through an image from its root -/
/-- What an image's inodes are by themselves. -/
structure Bas (l : List Nd) : Prop where
  srt : l.Pairwise (fun a b => a.num < b.num)
  rt : ∃ r t, l = r :: t ∧ r.num = 1 ∧ r.kind = 1
  pos : ∀ x ∈ l, 1 ≤ x.num
  kinds : ∀ x ∈ l, NdOk x
  esrt : ∀ x ∈ l, x.ents.Pairwise (fun a b => lt a.1 b.1 = true)
/-- What their entries make of them. -/
structure Tree (l : List Nd) : Prop where
  es : ∀ x ∈ l, ∀ e ∈ x.ents, e.2 ≠ 1 ∧ ∃ y ∈ l, y.num = e.2
  lk1 : ∀ x ∈ l, 1 ≤ lks l x.num
  lkd : ∀ x ∈ l, x.kind = 1 → lks l x.num = 1
  rk : ∃ rk : Int → Nat, ∀ x ∈ l, ∀ e ∈ x.ents, ∀ y ∈ l, y.num = e.2 → y.kind = 1 → rk x.num < rk y.num
theorem Bas.uniq {l : List Nd} (h : Bas l) {x y : Nd} (hx : x ∈ l) (hy : y ∈ l) (e : x.num = y.num) : x = y := by
  have h1 := get_mem h.srt hx
  have h2 := get_mem h.srt hy
  rw [e, h2] at h1
  injection h1 with h1
  exact h1.symm
/-- How often the inodes of a list name another one. -/
def cntV (l : List Nd) (vis : List Int) (k : Int) : Nat := (vis.map (fun v => ((get l v).map (fun x => nameN x.ents k)).getD 0)).sum
theorem cntV_append (l : List Nd) (a b : List Int) (k : Int) : cntV l (a ++ b) k = cntV l a k + cntV l b k := by
  unfold cntV
  rw [List.map_append, List.sum_append]
theorem cntV_perm {l : List Nd} {a b : List Int} (h : a.Perm b) (k : Int) : cntV l a k = cntV l b k := by
  unfold cntV
  exact (h.map _).sum_nat
theorem get_cons_ne {x : Nd} {r : List Nd} {k : Int} (h : x.num ≠ k) : get (x :: r) k = get r k := by
  unfold get
  rw [List.find?_cons, decide_eq_false h]
theorem cntV_drop {x : Nd} {r : List Nd} {vis : List Int} (h : x.num ∉ vis) (k : Int) : cntV (x :: r) vis k = cntV r vis k := by
  unfold cntV
  congr 1
  apply List.map_congr_left
  intro v hv
  rw [get_cons_ne (fun e => h (e ▸ hv))]
theorem get_cons_self {x : Nd} {r : List Nd} : get (x :: r) x.num = some x := by
  unfold get
  rw [List.find?_cons, decide_eq_true rfl]
/-- No list of different inodes names another one more often than all do. -/
theorem cntV_le {l : List Nd} (hs : Srt l) {vis : List Int} (hn : vis.Nodup) (k : Int) : cntV l vis k ≤ lkS l k := by
  induction l generalizing vis with
  | nil =>
    have : cntV [] vis k = 0 := by
      unfold cntV
      have e : vis.map (fun v => ((get [] v).map (fun x : Nd => nameN x.ents k)).getD 0) = vis.map (fun _ => 0) := rfl
      rw [e]
      clear e hn
      induction vis with
      | nil => rfl
      | cons a r ih => simpa using ih
    omega
  | cons x r ih =>
    rw [Srt, List.pairwise_cons] at hs
    have hls : lkS (x :: r) k = nameN x.ents k + lkS r k := by unfold lkS; simp
    by_cases hx : x.num ∈ vis
    · have hp : vis.Perm (x.num :: vis.erase x.num) := List.perm_cons_erase hx
      rw [cntV_perm hp, hls]
      have hn2 : (x.num :: vis.erase x.num).Nodup := hp.nodup_iff.1 hn
      rw [List.nodup_cons] at hn2
      have h1 := ih hs.2 hn2.2
      have e : cntV (x :: r) (x.num :: vis.erase x.num) k = nameN x.ents k + cntV (x :: r) (vis.erase x.num) k := by
        unfold cntV
        rw [List.map_cons, List.sum_cons, get_cons_self]; rfl
      rw [e, cntV_drop hn2.1]
      omega
    · have h1 := ih hs.2 hn
      rw [cntV_drop hx, hls]
      omega
theorem cntV_all {l : List Nd} (hs : Srt l) {vis : List Int} (hn : vis.Nodup) (hv : ∀ x ∈ l, x.ents ≠ [] → x.num ∈ vis) (k : Int) : cntV l vis k = lkS l k := by
  induction l generalizing vis with
  | nil => have := cntV_le (l := []) hs hn k; have : lkS [] k = 0 := rfl; omega
  | cons x r ih =>
    rw [Srt, List.pairwise_cons] at hs
    have hls : lkS (x :: r) k = nameN x.ents k + lkS r k := by unfold lkS; simp
    by_cases hx : x.num ∈ vis
    · have hp : vis.Perm (x.num :: vis.erase x.num) := List.perm_cons_erase hx
      rw [cntV_perm hp, hls]
      have hn2 : (x.num :: vis.erase x.num).Nodup := hp.nodup_iff.1 hn
      rw [List.nodup_cons] at hn2
      have h1 := ih hs.2 hn2.2 (fun y hy hye => by
        have := hv y (List.mem_cons_of_mem _ hy) hye
        have h2 := hp.mem_iff.1 this
        rcases List.mem_cons.1 h2 with h3 | h3
        · have := hs.1 y hy; omega
        · exact h3)
      have e : cntV (x :: r) (x.num :: vis.erase x.num) k = nameN x.ents k + cntV (x :: r) (vis.erase x.num) k := by
        unfold cntV
        rw [List.map_cons, List.sum_cons, get_cons_self]; rfl
      rw [e, cntV_drop hn2.1]
      omega
    · have hxe : x.ents = [] := by
        cases hc : x.ents with
        | nil => rfl
        | cons a b => exact absurd (hv x (List.mem_cons_self ..) (by rw [hc]; simp)) hx
      have h1 := ih hs.2 hn (fun y hy hye => hv y (List.mem_cons_of_mem _ hy) hye)
      rw [cntV_drop hx, hls, hxe, nameN_nil]
      omega
/-- Different ones of a list are no more than it has. -/
theorem nodup_le {ks ms : List Int} (hn : ks.Nodup) (h : ∀ k ∈ ks, k ∈ ms) : ks.length ≤ ms.length := by
  induction ks generalizing ms with
  | nil => simp
  | cons a r ih =>
    rw [List.nodup_cons] at hn
    have ha := h a (List.mem_cons_self ..)
    have h1 := ih (ms := ms.erase a) hn.2 (fun k hk => (List.mem_erase_of_ne (fun e => by rw [e] at hk; exact hn.1 hk)).2 (h k (List.mem_cons_of_mem _ hk)))
    have h2 := List.length_erase_of_mem ha
    have h3 := List.length_pos_of_mem ha
    rw [List.length_cons]
    omega
theorem nodup_all {ks ms : List Int} (hn : ks.Nodup) (h : ∀ k ∈ ks, k ∈ ms) (hl : ms.length ≤ ks.length) : ∀ m ∈ ms, m ∈ ks := by
  induction ks generalizing ms with
  | nil =>
    intro m hm
    have := List.length_pos_of_mem hm
    simp at hl
    rw [hl] at this
    simp at this
  | cons a r ih =>
    intro m hm
    rw [List.nodup_cons] at hn
    have ha := h a (List.mem_cons_self ..)
    have h2 := List.length_erase_of_mem ha
    have h3 := List.length_pos_of_mem ha
    have h1 := ih (ms := ms.erase a) hn.2 (fun k hk => (List.mem_erase_of_ne (fun e => by rw [e] at hk; exact hn.1 hk)).2 (h k (List.mem_cons_of_mem _ hk))) (by rw [List.length_cons] at hl; omega)
    by_cases hma : m = a
    · rw [hma]; exact List.mem_cons_self ..
    · exact List.mem_cons_of_mem _ (h1 m ((List.mem_erase_of_ne hma).2 hm))
/-- How the going stands: vis were gone through, cur is under way (its entries pre), todo are to come; ord as they came by; N how often each was named, ks who was. -/
structure Dfs (l : List Nd) (vis cur todo ord : List Int) (pre : List (Tx × Int)) (N : Int → Nat) (ks : List Int) : Prop where
  perm : (vis ++ (cur ++ todo)).Perm ord
  nod : ord.Nodup
  ordN : ∀ k ∈ ord, 0 < N k
  dir : ∀ k ∈ ord, ∃ x ∈ l, x.num = k ∧ x.kind = 1
  nk : ∀ k, 0 < N k ↔ k ∈ ks
  ksn : ks.Nodup
  inn : ∀ k ∈ ks, ∃ x ∈ l, x.num = k
  dirs : ∀ x ∈ l, x.kind = 1 → N x.num ≤ 1 ∧ (0 < N x.num → x.num ∈ ord)
  ok : ∀ v ∈ vis, ∀ x ∈ l, x.num = v → ∀ e ∈ x.ents, e.2 ≠ 1 ∧ ∃ y ∈ l, y.num = e.2 ∧ (y.kind = 1 → ord.idxOf v < ord.idxOf e.2)
  okc : ∀ v ∈ cur, ∀ e ∈ pre, e.2 ≠ 1 ∧ ∃ y ∈ l, y.num = e.2 ∧ (y.kind = 1 → ord.idxOf v < ord.idxOf e.2)
  cnt : ∀ k, N k = cntV l vis k + nameN pre k + if k = 1 then 1 else 0
theorem Dfs.start {l : List Nd} (h : Bas l) : Dfs l [] [] [1] [1] [] (fun k => if k = 1 then 1 else 0) [1] := by
  obtain ⟨r, t, e, r1, r2⟩ := h.rt
  have hr : r ∈ l := by rw [e]; exact List.mem_cons_self ..
  refine ⟨.refl _, by simp, fun k hk => ?_, fun k hk => ?_, fun k => ?_, by simp, fun k hk => ?_, fun x hx hk => ?_, (fun v hv => by cases hv), (fun v hv => by cases hv), fun k => ?_⟩
  · have : k = 1 := by simpa using hk
    simp [this]
  · have : k = 1 := by simpa using hk
    exact ⟨r, hr, by rw [this, r1], r2⟩
  · by_cases hk : k = 1
    · simp [hk]
    · simp [hk]
  · have : k = 1 := by simpa using hk
    exact ⟨r, hr, by rw [this, r1]⟩
  · by_cases hk : x.num = 1
    · simp [hk]
    · simp [hk]
  · simp [cntV, nameN_nil]
/-- The last one of those that are to come. -/
theorem Dfs.pop {l : List Nd} {vis todo ord : List Int} {N : Int → Nat} {ks : List Int} {c : Int} (h : Dfs l vis [] (todo ++ [c]) ord [] N ks) : Dfs l vis [c] todo ord [] N ks :=
  ⟨(List.Perm.append_left vis (List.perm_append_comm (l₁ := [c]) (l₂ := todo))).trans h.perm, h.nod, h.ordN, h.dir, h.nk, h.ksn, h.inn, h.dirs, h.ok, (fun v hv e he => by cases he), h.cnt⟩
/-- All its entries were gone through. -/
theorem Dfs.next {l : List Nd} {vis todo ord : List Int} {N : Int → Nat} {ks : List Int} {c : Int} {x : Nd} (hx : get l c = some x) (hb : Bas l) (h : Dfs l vis [c] todo ord x.ents N ks) : Dfs l (vis ++ [c]) [] todo ord [] N ks := by
  refine ⟨by have := h.perm; simpa using this, h.nod, h.ordN, h.dir, h.nk, h.ksn, h.inn, h.dirs, fun v hv y hy hyv e he => ?_, (fun v hv => by cases hv), fun k => ?_⟩
  · rw [List.mem_append] at hv
    rcases hv with hv | hv
    · exact h.ok v hv y hy hyv e he
    · have hvc : v = c := by simpa using hv
      have hyx : y = x := hb.uniq hy (get_some hx).1 (by rw [hyv, hvc, (get_some hx).2])
      rw [hyx] at he
      exact h.okc v hv e he
  · rw [h.cnt k, cntV_append]
    have : cntV l [c] k = nameN x.ents k := by
      unfold cntV
      simp [hx]
    rw [this, nameN_nil]
    omega
theorem nameN_snoc (es : List (Tx × Int)) (e : Tx × Int) (k : Int) : nameN (es ++ [e]) k = nameN es k + if e.2 = k then 1 else 0 := by
  unfold nameN
  rw [List.filter_append, List.length_append]
  congr 1
  by_cases h : e.2 = k
  · simp [h]
  · simp [h]
def bumpN (N : Int → Nat) (n k : Int) : Nat := if k = n then N k + 1 else N k
/-- An entry that names what is no directory. -/
theorem Dfs.file {l : List Nd} {vis todo ord : List Int} {pre : List (Tx × Int)} {N : Int → Nat} {ks : List Int} {c : Int} {e : Tx × Int} {y : Nd} (hb : Bas l) (h : Dfs l vis [c] todo ord pre N ks) (hy : get l e.2 = some y) (hk : y.kind ≠ 1) : Dfs l vis [c] todo ord (pre ++ [e]) (bumpN N e.2) (if 0 < N e.2 then ks else ks ++ [e.2]) := by
  obtain ⟨hym, hyn⟩ := get_some hy
  obtain ⟨r, t, el, r1, r2⟩ := hb.rt
  have h1 : e.2 ≠ 1 := fun e1 => by
    have : y = r := hb.uniq hym (by rw [el]; exact List.mem_cons_self ..) (by rw [hyn, e1, r1])
    rw [this] at hk; exact hk r2
  have hxy : ∀ x ∈ l, x.kind = 1 → x.num ≠ e.2 := fun x hx hxk e1 => by
    have : x = y := hb.uniq hx hym (by rw [e1, hyn])
    rw [this] at hxk; exact hk hxk
  refine ⟨h.perm, h.nod, fun k hk2 => ?_, h.dir, fun k => ?_, ?_, fun k hk2 => ?_, fun x hx hxk => ?_, h.ok, fun v hv f hf => ?_, fun k => ?_⟩
  · have := h.ordN k hk2
    unfold bumpN
    split <;> omega
  · unfold bumpN
    by_cases hke : k = e.2
    · subst hke
      rw [if_pos rfl]
      by_cases hp : 0 < N e.2
      · rw [if_pos hp]; exact ⟨fun _ => (h.nk _).1 hp, fun _ => by omega⟩
      · rw [if_neg hp]; simp
    · rw [if_neg hke]
      by_cases hp : 0 < N e.2
      · rw [if_pos hp]; exact h.nk k
      · rw [if_neg hp, h.nk k]; simp [hke]
  · by_cases hp : 0 < N e.2
    · rw [if_pos hp]; exact h.ksn
    · rw [if_neg hp]
      rw [List.nodup_append]
      refine ⟨h.ksn, by simp, fun a ha b hbm => ?_⟩
      have : b = e.2 := by simpa using hbm
      intro hab
      rw [hab, this] at ha
      exact hp ((h.nk _).2 ha)
  · by_cases hp : 0 < N e.2
    · rw [if_pos hp] at hk2; exact h.inn k hk2
    · rw [if_neg hp] at hk2
      rw [List.mem_append] at hk2
      rcases hk2 with hk2 | hk2
      · exact h.inn k hk2
      · have : k = e.2 := by simpa using hk2
        exact ⟨y, hym, by rw [this, hyn]⟩
  · unfold bumpN
    rw [if_neg (hxy x hx hxk)]
    exact h.dirs x hx hxk
  · rw [List.mem_append] at hf
    rcases hf with hf | hf
    · exact h.okc v hv f hf
    · have : f = e := by simpa using hf
      rw [this]
      exact ⟨h1, y, hym, hyn, fun hk1 => absurd hk1 hk⟩
  · unfold bumpN
    rw [nameN_snoc, h.cnt k]
    by_cases hke : k = e.2
    · rw [if_pos hke, if_pos hke.symm]; omega
    · rw [if_neg hke, if_neg (fun e1 : e.2 = k => hke e1.symm)]; omega
theorem idx_append {l : List Int} {a b : Int} (ha : a ∈ l) (hb : b ∉ l) : (l ++ [b]).idxOf a < (l ++ [b]).idxOf b := by
  rw [List.idxOf_append, List.idxOf_append, if_pos ha, if_neg hb]
  have := List.idxOf_lt_length_of_mem ha
  omega
theorem idx_mono {l : List Int} {a b z : Int} (ha : a ∈ l) (h : l.idxOf a < l.idxOf b) : (l ++ [z]).idxOf a < (l ++ [z]).idxOf b := by
  rw [List.idxOf_append, List.idxOf_append, if_pos ha]
  by_cases hb : b ∈ l
  · rw [if_pos hb]; exact h
  · rw [if_neg hb]
    have := List.idxOf_lt_length_of_mem ha
    omega
/-- An entry that names a directory for the first time. -/
theorem Dfs.ddir {l : List Nd} {vis todo ord : List Int} {pre : List (Tx × Int)} {N : Int → Nat} {ks : List Int} {c : Int} {e : Tx × Int} {y : Nd} (hb : Bas l) (h : Dfs l vis [c] todo ord pre N ks) (hy : get l e.2 = some y) (hk : y.kind = 1) (h0 : N e.2 = 0) : Dfs l vis [c] (todo ++ [e.2]) (ord ++ [e.2]) (pre ++ [e]) (bumpN N e.2) (ks ++ [e.2]) := by
  obtain ⟨hym, hyn⟩ := get_some hy
  have h1 : e.2 ≠ 1 := fun e1 => by
    have := h.cnt e.2
    rw [if_pos e1] at this
    omega
  have hno : e.2 ∉ ord := fun hm => by have := h.ordN _ hm; omega
  have hvo : ∀ v ∈ vis, v ∈ ord := fun v hv => h.perm.mem_iff.1 (List.mem_append_left _ hv)
  have hco : c ∈ ord := h.perm.mem_iff.1 (by simp)
  refine ⟨?_, ?_, fun k hk2 => ?_, fun k hk2 => ?_, fun k => ?_, ?_, fun k hk2 => ?_, fun x hx hxk => ?_, fun v hv x hx hxv f hf => ?_, fun v hv f hf => ?_, fun k => ?_⟩
  · have := h.perm.append_right [e.2]
    simpa using this
  · rw [List.nodup_append]
    refine ⟨h.nod, by simp, fun a ha b hbm hab => ?_⟩
    have : b = e.2 := by simpa using hbm
    rw [hab, this] at ha
    exact hno ha
  · unfold bumpN
    rw [List.mem_append] at hk2
    rcases hk2 with hk2 | hk2
    · have := h.ordN k hk2
      split <;> omega
    · have : k = e.2 := by simpa using hk2
      rw [if_pos this]; omega
  · rw [List.mem_append] at hk2
    rcases hk2 with hk2 | hk2
    · exact h.dir k hk2
    · have : k = e.2 := by simpa using hk2
      exact ⟨y, hym, by rw [this, hyn], hk⟩
  · unfold bumpN
    by_cases hke : k = e.2
    · rw [if_pos hke]; simp [hke]
    · rw [if_neg hke, h.nk k]; simp [hke]
  · rw [List.nodup_append]
    refine ⟨h.ksn, by simp, fun a ha b hbm hab => ?_⟩
    have : b = e.2 := by simpa using hbm
    rw [hab, this] at ha
    have := (h.nk _).2 ha
    omega
  · rw [List.mem_append] at hk2
    rcases hk2 with hk2 | hk2
    · exact h.inn k hk2
    · have : k = e.2 := by simpa using hk2
      exact ⟨y, hym, by rw [this, hyn]⟩
  · unfold bumpN
    by_cases hxe : x.num = e.2
    · rw [if_pos hxe, hxe, h0]
      exact ⟨by omega, fun _ => by simp⟩
    · rw [if_neg hxe]
      have := h.dirs x hx hxk
      exact ⟨this.1, fun hp => List.mem_append_left _ (this.2 hp)⟩
  · obtain ⟨a, z, hz, hzn, hzi⟩ := h.ok v hv x hx hxv f hf
    exact ⟨a, z, hz, hzn, fun hzk => idx_mono (hvo v hv) (hzi hzk)⟩
  · have hvc : v = c := by simpa using hv
    rw [List.mem_append] at hf
    rcases hf with hf | hf
    · obtain ⟨a, z, hz, hzn, hzi⟩ := h.okc v hv f hf
      exact ⟨a, z, hz, hzn, fun hzk => idx_mono (by rw [hvc]; exact hco) (hzi hzk)⟩
    · have : f = e := by simpa using hf
      rw [this]
      exact ⟨h1, y, hym, hyn, fun _ => idx_append (by rw [hvc]; exact hco) hno⟩
  · unfold bumpN
    rw [nameN_snoc, h.cnt k]
    by_cases hke : k = e.2
    · rw [if_pos hke, if_pos hke.symm]; omega
    · rw [if_neg hke, if_neg (fun e1 : e.2 = k => hke e1.symm)]; omega
/-- How often it was named is no more than in all. -/
theorem Dfs.le {l : List Nd} {vis todo ord : List Int} {pre : List (Tx × Int)} {N : Int → Nat} {ks : List Int} {c : Int} {x : Nd} (hb : Bas l) (h : Dfs l vis [c] todo ord pre N ks) (hx : get l c = some x) (post : List (Tx × Int)) (hp : x.ents = pre ++ post) (k : Int) : N k + nameN post k ≤ lks l k := by
  have hnd : (vis ++ [c]).Nodup := by
    have h1 := h.perm.nodup_iff.2 h.nod
    have e : vis ++ ([c] ++ todo) = (vis ++ [c]) ++ todo := by simp
    rw [e, List.nodup_append] at h1
    exact h1.1
  have h2 := cntV_le hb.srt hnd k
  rw [cntV_append] at h2
  have h3 : cntV l [c] k = nameN pre k + nameN post k := by
    unfold cntV
    simp [hx, hp, nameN, List.filter_append]
  have := h.cnt k
  unfold lks
  omega
/-- An entry that names nothing, or a directory once more: no tree. -/
theorem Dfs.missing {l : List Nd} {x : Nd} {e : Tx × Int} (hx : x ∈ l) (he : e ∈ x.ents) (hn : get l e.2 = none) : ¬ Tree l := fun h => by
  obtain ⟨_, y, hy, hyn⟩ := h.es x hx e he
  exact get_none.1 hn y hy hyn
theorem Dfs.twice {l : List Nd} {vis todo ord : List Int} {pre : List (Tx × Int)} {N : Int → Nat} {ks : List Int} {c : Int} {x : Nd} {e : Tx × Int} {post : List (Tx × Int)} {y : Nd} (hb : Bas l) (h : Dfs l vis [c] todo ord pre N ks) (hx : get l c = some x) (hp : x.ents = pre ++ e :: post) (hy : get l e.2 = some y) (hk : y.kind = 1) (h0 : 0 < N e.2) : ¬ Tree l := fun ht => by
  obtain ⟨hym, hyn⟩ := get_some hy
  have h1 := h.le hb hx (e :: post) hp e.2
  have h2 : 0 < nameN (e :: post) e.2 := nameN_pos.2 ⟨e, List.mem_cons_self .., rfl⟩
  have h3 := ht.lkd y hym hk
  rw [hyn] at h3
  omega
/-- Nothing is to come any more. -/
theorem Dfs.done {l : List Nd} {vis ord : List Int} {N : Int → Nat} {ks : List Int} (hb : Bas l) (h : Dfs l vis [] [] ord [] N ks) : ks.length = l.length ↔ Tree l := by
  have hvo : ∀ k, k ∈ vis ↔ k ∈ ord := fun k => by
    have := h.perm.mem_iff (a := k)
    simpa using this
  have hvn : vis.Nodup := by
    have := h.perm.nodup_iff.2 h.nod
    simpa using this
  have hmem : ∀ k ∈ ks, k ∈ l.map (·.num) := fun k hk => by
    obtain ⟨x, hx, hxk⟩ := h.inn k hk
    exact List.mem_map.2 ⟨x, hx, hxk⟩
  have hcnt : ∀ k, N k = cntV l vis k + if k = 1 then 1 else 0 := fun k => by
    have := h.cnt k
    rw [nameN_nil] at this
    omega
  constructor
  · intro hl
    have hall : ∀ x ∈ l, x.num ∈ ks := fun x hx => nodup_all h.ksn hmem (by rw [List.length_map]; omega) x.num (List.mem_map.2 ⟨x, hx, rfl⟩)
    have hvd : ∀ x ∈ l, x.ents ≠ [] → x.num ∈ vis := fun x hx hxe => by
      have hk : x.kind = 1 := by
        by_cases hk : x.kind = 1
        · exact hk
        · exact absurd ((hb.kinds x hx).noents hk) hxe
      exact (hvo _).2 ((h.dirs x hx hk).2 ((h.nk _).2 (hall x hx)))
    have hlk : ∀ k, N k = lks l k := fun k => by
      rw [hcnt k, cntV_all hb.srt hvn hvd k]; rfl
    have hes : ∀ x ∈ l, ∀ e ∈ x.ents, e.2 ≠ 1 ∧ ∃ y ∈ l, y.num = e.2 ∧ (y.kind = 1 → ord.idxOf x.num < ord.idxOf e.2) := fun x hx e he => h.ok x.num (hvd x hx (List.ne_nil_of_mem he)) x hx rfl e he
    refine ⟨fun x hx e he => ?_, fun x hx => ?_, fun x hx hk => ?_, fun k => ord.idxOf k, fun x hx e he y hy hye hyk => ?_⟩
    · obtain ⟨a, y, hy, hyn, _⟩ := hes x hx e he
      exact ⟨a, y, hy, hyn⟩
    · have := (h.nk _).2 (hall x hx)
      rw [hlk] at this; omega
    · have h1 := (h.nk _).2 (hall x hx)
      have h2 := (h.dirs x hx hk).1
      rw [hlk] at h1 h2; omega
    · obtain ⟨a, z, hz, hzn, hzi⟩ := hes x hx e he
      have : z = y := hb.uniq hz hy (by rw [hzn, hye])
      have := hzi (by rw [this]; exact hyk)
      rw [hye]; exact this
  · intro ht
    obtain ⟨rk, hrk⟩ := ht.rk
    have hpar : ∀ x ∈ l, x.num ≠ 1 → ∃ p ∈ l, p.kind = 1 ∧ ∃ e ∈ p.ents, e.2 = x.num := fun x hx h1 => by
      have h2 := ht.lk1 x hx
      unfold lks at h2
      rw [if_neg h1, lkS_sum] at h2
      obtain ⟨p, hp, hg⟩ := sumF_pos (g := fun y => nameN y.ents x.num) (l := l) (by omega)
      obtain ⟨e, he, he2⟩ := nameN_pos.1 hg
      refine ⟨p, hp, ?_, e, he, he2⟩
      by_cases hk : p.kind = 1
      · exact hk
      · rw [(hb.kinds p hp).noents hk] at he; cases he
    have hN1 : 0 < N 1 := by rw [hcnt 1]; simp
    have hnam : ∀ p ∈ l, p.num ∈ vis → ∀ e ∈ p.ents, 0 < N e.2 := fun p hp hpv e he => by
      have h1 : 0 < nameN p.ents e.2 := nameN_pos.2 ⟨e, he, rfl⟩
      have h2 : nameN p.ents e.2 ≤ cntV l vis e.2 := by
        have hpm : vis.Perm (p.num :: vis.erase p.num) := List.perm_cons_erase hpv
        rw [cntV_perm hpm]
        have : cntV l (p.num :: vis.erase p.num) e.2 = nameN p.ents e.2 + cntV l (vis.erase p.num) e.2 := by
          unfold cntV
          rw [List.map_cons, List.sum_cons, get_mem hb.srt hp]; rfl
        omega
      rw [hcnt]; omega
    have hdv : ∀ n, ∀ x ∈ l, x.kind = 1 → rk x.num ≤ n → x.num ∈ vis := by
      intro n
      induction n with
      | zero =>
        intro x hx hk hr
        by_cases h1 : x.num = 1
        · have h2 := (h.dirs x hx hk).2
          rw [h1] at h2 ⊢
          exact (hvo 1).2 (h2 hN1)
        · obtain ⟨p, hp, hpk, e, he, he2⟩ := hpar x hx h1
          have := hrk p hp e he x hx he2.symm hk
          omega
      | succ n ih =>
        intro x hx hk hr
        by_cases h1 : x.num = 1
        · have h2 := (h.dirs x hx hk).2
          rw [h1] at h2 ⊢
          exact (hvo 1).2 (h2 hN1)
        · obtain ⟨p, hp, hpk, e, he, he2⟩ := hpar x hx h1
          have := hrk p hp e he x hx he2.symm hk
          have hpv := ih p hp hpk (by omega)
          have hN := hnam p hp hpv e he
          rw [he2] at hN
          exact (hvo _).2 ((h.dirs x hx hk).2 hN)
    have hall : ∀ x ∈ l, x.num ∈ ks := fun x hx => by
      rw [← h.nk]
      by_cases h1 : x.num = 1
      · rw [h1]; exact hN1
      · obtain ⟨p, hp, hpk, e, he, he2⟩ := hpar x hx h1
        have := hnam p hp (hdv _ p hp hpk (Nat.le_refl _)) e he
        rw [he2] at this; exact this
    have hnd : (l.map (·.num)).Nodup := by
      rw [List.nodup_iff_pairwise_ne, List.pairwise_map]
      exact hb.srt.imp (fun h => by omega)
    have h1 := nodup_le h.ksn hmem
    have h2 := nodup_le hnd (fun k hk => by
      obtain ⟨x, hx, hxk⟩ := List.mem_map.1 hk
      rw [← hxk]; exact hall x hx)
    rw [List.length_map] at h1 h2
    omega
theorem Dfs.few {l : List Nd} {vis cur todo ord : List Int} {pre : List (Tx × Int)} {N : Int → Nat} {ks : List Int} (hb : Bas l) (h : Dfs l vis cur todo ord pre N ks) : ord.length ≤ l.length ∧ vis.length + cur.length + todo.length = ord.length ∧ ks.length ≤ l.length := by
  refine ⟨?_, ?_, ?_⟩
  · have := nodup_le (ms := l.map (·.num)) h.nod (fun k hk => by
      obtain ⟨x, hx, hxk, _⟩ := h.dir k hk
      exact List.mem_map.2 ⟨x, hx, hxk⟩)
    rw [List.length_map] at this; exact this
  · have := h.perm.length_eq
    simp only [List.length_append] at this
    omega
  · have := nodup_le (ms := l.map (·.num)) h.ksn (fun k hk => by
      obtain ⟨x, hx, hxk⟩ := h.inn k hk
      exact List.mem_map.2 ⟨x, hx, hxk⟩)
    rw [List.length_map] at this; exact this
end Go.Proofs.YtcogkhcfpgelhaaGreat

namespace Go.Proofs.YtcogkhcfpgelhaaGreat
open Go.RowKit
set_option linter.unusedVariables false
/-! ### Valid, as the program finds it -/
def entsG : Tx → List (Tx × Int) → Bool
  | _, [] => true
  | last, e :: r => lt last e.1 && nmOk e.1 && entsG e.1 r
theorem entsG_iff (last : Tx) (es : List (Tx × Int)) : entsG last es = true ↔ (∀ e ∈ es, nmOk e.1 = true ∧ lt last e.1 = true) ∧ es.Pairwise (fun a b => lt a.1 b.1 = true) := by
  induction es generalizing last with
  | nil => simp [entsG]
  | cons e r ih =>
    unfold entsG
    rw [Bool.and_eq_true, Bool.and_eq_true, ih, List.pairwise_cons]
    constructor
    · rintro ⟨⟨h1, h2⟩, h3, h4⟩
      refine ⟨fun x hx => ?_, fun x hx => (h3 x hx).2, h4⟩
      rcases List.mem_cons.1 hx with rfl | hx
      · exact ⟨h2, h1⟩
      · exact ⟨(h3 x hx).1, lt_trans h1 (h3 x hx).2⟩
    · rintro ⟨h1, h2, h3⟩
      exact ⟨⟨(h1 e (List.mem_cons_self ..)).2, (h1 e (List.mem_cons_self ..)).1⟩, fun x hx => ⟨(h1 x (List.mem_cons_of_mem _ hx)).1, h2 x hx⟩, h3⟩
theorem lt_nil {s : Tx} (h : nmOk s = true) : lt [] s = true := by
  cases s with
  | nil => simp [nmOk] at h
  | cons a r => rfl
theorem entsG_nil (es : List (Tx × Int)) : entsG [] es = true ↔ (∀ e ∈ es, nmOk e.1 = true) ∧ es.Pairwise (fun a b => lt a.1 b.1 = true) := by
  rw [entsG_iff]
  exact ⟨fun h => ⟨fun e he => (h.1 e he).1, h.2⟩, fun h => ⟨fun e he => ⟨h.1 e he, lt_nil (h.1 e he)⟩, h.2⟩⟩
def ndB (x : Nd) : Bool :=
  if x.kind = 1 then decide (x.data = []) && decide (x.tgt = []) && entsG [] x.ents && mtOk x.mt
  else if x.kind = 2 then decide (x.data.length ≤ 4194304) && decide (x.tgt = []) && decide (x.ents = []) && mtOk x.mt
  else if x.kind = 3 then decide (x.data = []) && tgOk x.tgt && decide (x.ents = []) && mtOk x.mt
  else false
theorem ndB_iff (x : Nd) : ndB x = true ↔ NdOk x ∧ (∀ e ∈ x.ents, nmOk e.1 = true) ∧ x.ents.Pairwise (fun a b => lt a.1 b.1 = true) := by
  unfold ndB NdOk
  by_cases h1 : x.kind = 1
  · rw [if_pos h1]
    simp only [Bool.and_eq_true, decide_eq_true_eq, entsG_nil]
    constructor
    · rintro ⟨⟨⟨a, b⟩, c⟩, d⟩
      exact ⟨⟨d, .inl ⟨h1, a, b⟩⟩, c⟩
    · rintro ⟨⟨d, h⟩, c⟩
      rcases h with ⟨_, a, b⟩ | ⟨e, _⟩ | ⟨e, _⟩
      · exact ⟨⟨⟨a, b⟩, c⟩, d⟩
      · omega
      · omega
  · rw [if_neg h1]
    by_cases h2 : x.kind = 2
    · rw [if_pos h2]
      simp only [Bool.and_eq_true, decide_eq_true_eq]
      constructor
      · rintro ⟨⟨⟨a, b⟩, c⟩, d⟩
        exact ⟨⟨d, .inr (.inl ⟨h2, a, b, c⟩)⟩, by rw [c]; simp⟩
      · rintro ⟨⟨d, h⟩, _⟩
        rcases h with ⟨e, _⟩ | ⟨_, a, b, c⟩ | ⟨e, _⟩
        · exact absurd e h1
        · exact ⟨⟨⟨a, b⟩, c⟩, d⟩
        · omega
    · rw [if_neg h2]
      by_cases h3 : x.kind = 3
      · rw [if_pos h3]
        simp only [Bool.and_eq_true, decide_eq_true_eq]
        constructor
        · rintro ⟨⟨⟨a, b⟩, c⟩, d⟩
          exact ⟨⟨d, .inr (.inr ⟨h3, a, b, c⟩)⟩, by rw [c]; simp⟩
        · rintro ⟨⟨d, h⟩, _⟩
          rcases h with ⟨e, _⟩ | ⟨e, _⟩ | ⟨_, a, b, c⟩
          · exact absurd e h1
          · exact absurd e h2
          · exact ⟨⟨⟨a, b⟩, c⟩, d⟩
      · rw [if_neg h3]
        constructor
        · intro h; cases h
        · rintro ⟨⟨_, h⟩, _⟩
          rcases h with ⟨e, _⟩ | ⟨e, _⟩ | ⟨e, _⟩
          · exact absurd e h1
          · exact absurd e h2
          · exact absurd e h3
def inoG (next : Int) : Int → List Nd → Bool
  | _, [] => true
  | last, x :: r => decide (last < x.num) && decide (x.num < next) && ndB x && inoG next x.num r
theorem inoG_iff (next last : Int) (l : List Nd) : inoG next last l = true ↔ (∀ x ∈ l, last < x.num ∧ x.num < next ∧ ndB x = true) ∧ l.Pairwise (fun a b => a.num < b.num) := by
  induction l generalizing last with
  | nil => simp [inoG]
  | cons y r ih =>
    unfold inoG
    rw [Bool.and_eq_true, Bool.and_eq_true, Bool.and_eq_true, ih, List.pairwise_cons, decide_eq_true_eq, decide_eq_true_eq]
    constructor
    · rintro ⟨⟨⟨h1, h2⟩, h3⟩, h4, h5⟩
      refine ⟨fun x hx => ?_, fun x hx => (h4 x hx).1, h5⟩
      rcases List.mem_cons.1 hx with rfl | hx
      · exact ⟨h1, h2, h3⟩
      · have := h4 x hx
        exact ⟨by omega, this.2⟩
    · rintro ⟨h1, h2, h3⟩
      obtain ⟨a, b, c⟩ := h1 y (List.mem_cons_self ..)
      exact ⟨⟨⟨a, b⟩, c⟩, fun x hx => ⟨h2 x hx, (h1 x (List.mem_cons_of_mem _ hx)).2⟩, h3⟩
/-- The first of the inodes is the root. -/
def rtB : List Nd → Bool
  | [] => false
  | x :: _ => decide (x.num = 1) && decide (x.kind = 1)
def bndB (X : Im) : Bool := decide (1 ≤ X.nodes) && decide (X.nodes ≤ 4096) && decide (0 ≤ X.bytes) && decide (X.bytes ≤ 4194304) && decide (1 < X.next) && decide (X.next ≤ 1099511627776) && decide (1 ≤ X.l.length) && decide ((X.l.length : Int) ≤ X.nodes)
def inodB (X : Im) : Bool := rtB X.l && inoG X.next 0 X.l && decide ((heldF X.l : Int) ≤ X.bytes)
theorem bas_of {X : Im} (h1 : rtB X.l = true) (h2 : inoG X.next 0 X.l = true) : Bas X.l := by
  rw [inoG_iff] at h2
  refine ⟨h2.2, ?_, fun x hx => ?_, fun x hx => ((ndB_iff x).1 (h2.1 x hx).2.2).1, fun x hx => ((ndB_iff x).1 (h2.1 x hx).2.2).2.2⟩
  · cases hl : X.l with
    | nil => rw [hl] at h1; cases h1
    | cons r t =>
      rw [hl] at h1
      unfold rtB at h1
      rw [Bool.and_eq_true, decide_eq_true_eq, decide_eq_true_eq] at h1
      exact ⟨r, t, rfl, h1.1, h1.2⟩
  · have := (h2.1 x hx).1
    omega
theorem valid_iff (X : Im) : (bndB X = true ∧ inodB X = true ∧ Tree X.l) ↔ WF X := by
  unfold inodB bndB
  simp only [Bool.and_eq_true, decide_eq_true_eq]
  constructor
  · rintro ⟨⟨⟨⟨⟨⟨⟨⟨a1, a2⟩, a3⟩, a4⟩, a5⟩, a6⟩, a7⟩, a8⟩, ⟨⟨b1, b2⟩, b3⟩, ht⟩
    have hb := bas_of b1 b2
    rw [inoG_iff] at b2
    refine ⟨a1, a2, a3, a4, by omega, a6, hb.srt, hb.rt, fun x hx => ?_, a8, hb.kinds, b3, fun x hx e he => ?_, hb.esrt, ht.lk1, ht.lkd, ht.rk⟩
    · have := b2.1 x hx; omega
    · exact ⟨((ndB_iff x).1 (b2.1 x hx).2.2).2.1 e he, ht.es x hx e he⟩
  · intro h
    have h5 := h.x1
    obtain ⟨r, t, e, r1, r2⟩ := h.rt
    refine ⟨⟨⟨⟨⟨⟨⟨⟨h.n1, h.n2⟩, h.b1⟩, h.b2⟩, by omega⟩, h.x2⟩, by rw [e]; simp⟩, h.len⟩, ⟨⟨?_, ?_⟩, h.held⟩, ⟨fun x hx e he => (h.es x hx e he).2, h.lk1, h.lkd, h.rk⟩⟩
    · rw [e]; unfold rtB; simp [r1, r2]
    · rw [inoG_iff]
      refine ⟨fun x hx => ?_, h.srt⟩
      have := h.nums x hx
      exact ⟨by omega, this.2, (ndB_iff x).2 ⟨h.kinds x hx, fun e he => (h.es x hx e he).1, h.esrt x hx⟩⟩
end Go.Proofs.YtcogkhcfpgelhaaGreat

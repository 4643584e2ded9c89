import Derived.Test.YtcogkhcfpgelhaaGreatVas
namespace Go.Proofs.YtcogkhcfpgelhaaGreat
open Go.RowKit
set_option linter.unusedVariables false
/-! ### build, step by step -/
def frP (x : Nd) : Pn := ⟨x.kind, x.mt, x.data, x.tgt, fun _ => none, 0, 0, 0⟩
def q1 (l : List Nd) (I : Nat) (k : Int) : Option Pn := (get (l.take I) k).map frP
theorem q1_step {l : List Nd} (hs : Srt l) {I : Nat} {x : Nd} (hx : l[I]? = some x) : q1 l (I + 1) = (fun k => if k = x.num then some (frP x) else q1 l I k) ∧ q1 l I x.num = none := by
  have hI := (List.getElem?_eq_some_iff.1 hx).1
  have hn : get (l.take I) x.num = none := by
    rw [get_none]
    intro z hz
    obtain ⟨j, hj, hzj⟩ := List.getElem_of_mem hz
    rw [List.length_take] at hj
    have := List.pairwise_iff_getElem.1 hs j I (by omega) hI (by omega)
    rw [List.getElem_take] at hzj
    obtain ⟨_, hyI⟩ := List.getElem?_eq_some_iff.1 hx
    rw [hzj, hyI] at this
    omega
  refine ⟨funext fun k => ?_, by unfold q1; rw [hn]; rfl⟩
  unfold q1
  have e : get (l.take (I + 1)) k = (get (l.take I) k).or (get [x] k) := by
    rw [List.take_add_one, hx, get_append]; rfl
  rw [e]
  by_cases hk : k = x.num
  · rw [if_pos hk, hk, hn]
    unfold get
    simp
  · rw [if_neg hk]
    have : get [x] k = none := by unfold get; simp; exact fun e => hk e.symm
    rw [this]; simp
def clr (l : List Nd) : List Nd := l.map (fun x => { x with ents := [] })
def cI (l : List Nd) (I : Nat) : List Nd := l.take I ++ clr (l.drop I)
def inn (l : List Nd) (I : Nat) (x : Nd) (J : Nat) : List Nd := l.take I ++ { x with ents := x.ents.take J } :: clr (l.drop (I + 1))
theorem drop_cons {l : List Nd} {I : Nat} {x : Nd} (hx : l[I]? = some x) : l.drop I = x :: l.drop (I + 1) := by
  obtain ⟨hI, rfl⟩ := List.getElem?_eq_some_iff.1 hx
  exact List.drop_eq_getElem_cons hI
theorem inn_zero {l : List Nd} {I : Nat} {x : Nd} (hx : l[I]? = some x) : cI l I = inn l I x 0 := by
  unfold cI inn
  rw [drop_cons hx]
  rfl
theorem inn_full {l : List Nd} {I : Nat} {x : Nd} (hx : l[I]? = some x) {J : Nat} (hJ : J = x.ents.length) : inn l I x J = cI l (I + 1) := by
  unfold cI inn
  rw [hJ, List.take_length, List.take_add_one, hx]
  simp
theorem cI_all (l : List Nd) {I : Nat} (h : I = l.length) : cI l I = l := by
  unfold cI clr
  rw [h, List.take_length, List.drop_length]
  simp
theorem cI_none (l : List Nd) : cI l 0 = clr l := rfl
/-- All but the entries stays. -/
theorem inn_nums {l : List Nd} {I : Nat} {x : Nd} (hx : l[I]? = some x) (J : Nat) : (inn l I x J).map (fun z => (z.num, z.kind)) = l.map (fun z => (z.num, z.kind)) := by
  have : l = l.take I ++ x :: l.drop (I + 1) := by rw [← drop_cons hx, List.take_append_drop]
  conv => rhs; rw [this]
  unfold inn clr
  simp only [List.map_append, List.map_cons, List.map_map]
  rfl
theorem srt_inn {l : List Nd} (hs : Srt l) {I : Nat} {x : Nd} (hx : l[I]? = some x) (J : Nat) : Srt (inn l I x J) := by
  have h1 := inn_nums hx J
  have h2 : (inn l I x J).map (·.num) = l.map (·.num) := by
    have := congrArg (List.map Prod.fst) h1
    rw [List.map_map, List.map_map] at this
    exact this
  have h3 : (l.map (·.num)).Pairwise (· < ·) := List.pairwise_map.2 hs
  rw [← h2] at h3
  exact List.pairwise_map.1 h3
theorem updL_mid {A B : List Nd} {y : Nd} {d : Int} (f : Nd → Nd) (h1 : y.num = d) (hA : ∀ z ∈ A, z.num ≠ d) (hB : ∀ z ∈ B, z.num ≠ d) : updL (A ++ y :: B) d f = A ++ f y :: B := by
  unfold updL
  rw [List.map_append, List.map_cons, if_pos h1]
  have e1 := updL_not A d f hA
  have e2 := updL_not B d f hB
  unfold updL at e1 e2
  rw [e1, e2]
/-- An entry behind those that a directory has. -/
def addB (c : List Nd) (d : Int) (e : Tx × Int) : List Nd := updL c d (fun x => { x with ents := x.ents ++ [e] })
theorem inn_step {l : List Nd} (hs : Srt l) {I : Nat} {x : Nd} (hx : l[I]? = some x) {J : Nat} {e : Tx × Int} (he : x.ents[J]? = some e) : inn l I x (J + 1) = addB (inn l I x J) x.num e := by
  have hss := srt_inn hs hx J
  unfold addB
  have h0 : ∀ z ∈ l.take I, z.num ≠ x.num := fun z hz => by
    have := (List.pairwise_append.1 hss).2.2 z hz { x with ents := x.ents.take J } (List.mem_cons_self ..)
    simp only at this
    omega
  have h1 : ∀ z ∈ clr (l.drop (I + 1)), z.num ≠ x.num := fun z hz => by
    have := (List.pairwise_cons.1 (List.pairwise_append.1 hss).2.1).1 z hz
    simp only at this
    omega
  unfold inn
  rw [updL_mid (y := { x with ents := x.ents.take J }) _ rfl h0 h1]
  simp only
  rw [List.take_add_one, he]
  rfl
theorem get_inn {l : List Nd} (hs : Srt l) {I : Nat} {x : Nd} (hx : l[I]? = some x) (J : Nat) : get (inn l I x J) x.num = some { x with ents := x.ents.take J } := get_mem (srt_inn hs hx J) (x := { x with ents := x.ents.take J }) (List.mem_append_right _ (List.mem_cons_self ..))
/-- Who is in the one is in the other. -/
theorem inn_get {l : List Nd} {I : Nat} {x : Nd} (hx : l[I]? = some x) (J : Nat) (k : Int) : (get (inn l I x J) k).map (fun z => (z.num, z.kind)) = (get l k).map (fun z => (z.num, z.kind)) := by
  have key : ∀ a b : List Nd, a.map (fun z => (z.num, z.kind)) = b.map (fun z => (z.num, z.kind)) → (get a k).map (fun z => (z.num, z.kind)) = (get b k).map (fun z => (z.num, z.kind)) := by
    intro a
    induction a with
    | nil =>
      intro b hb
      cases b with
      | nil => rfl
      | cons y r => simp at hb
    | cons z r ih =>
      intro b hb
      cases b with
      | nil => simp at hb
      | cons y t =>
        rw [List.map_cons, List.map_cons] at hb
        injection hb with h1 h2
        injection h1 with h3 h4
        unfold get
        rw [List.find?_cons, List.find?_cons, h3]
        by_cases hk : y.num = k
        · rw [decide_eq_true hk]
          simp [h3, h4]
        · rw [decide_eq_false hk]
          exact ih t h2
  exact key _ _ (inn_nums hx J)
theorem nameN_take (es : List (Tx × Int)) (J : Nat) (k : Int) : nameN (es.take J) k ≤ nameN es k := by
  unfold nameN
  exact ((List.take_sublist J es).filter _).length_le
theorem lkS_clr (l : List Nd) (k : Int) : lkS (clr l) k = 0 := by
  unfold lkS clr
  induction l with
  | nil => rfl
  | cons x r ih =>
    simp only [List.map_cons, List.sum_cons, nameN_nil]
    simpa using ih
theorem lkS_app (a b : List Nd) (k : Int) : lkS (a ++ b) k = lkS a k + lkS b k := by rw [lkS_sum, lkS_sum, lkS_sum, sumF_append]
theorem lkS_inn {l : List Nd} {I : Nat} {x : Nd} (hx : l[I]? = some x) {J : Nat} {e : Tx × Int} (he : x.ents[J]? = some e) (k : Int) : lkS (inn l I x J) k + (if e.2 = k then 1 else 0) ≤ lkS l k := by
  have : l = l.take I ++ x :: l.drop (I + 1) := by rw [← drop_cons hx, List.take_append_drop]
  conv => rhs; rw [this]
  unfold inn
  rw [lkS_app, lkS_app]
  have h1 : lkS ({ x with ents := x.ents.take J } :: clr (l.drop (I + 1))) k = nameN (x.ents.take J) k + lkS (clr (l.drop (I + 1))) k := by unfold lkS; simp
  have h2 : lkS (x :: l.drop (I + 1)) k = nameN x.ents k + lkS (l.drop (I + 1)) k := by unfold lkS; simp
  have h3 := nameN_take x.ents (J + 1) k
  rw [List.take_add_one, he] at h3
  have h4 := nameN_snoc (x.ents.take J) e k
  have h5 : (some e).toList = [e] := rfl
  rw [h5, h4] at h3
  rw [h1, h2, lkS_clr]
  omega
/-- An inode as it stands while it is built. -/
def pB (c : List Nd) (r : Bool) (x : Nd) : Pn := ⟨x.kind, x.mt, x.data, x.tgt, entL x.ents, x.ents.length, (lkS c x.num : Int) + (if x.num = 1 ∧ r = true then 1 else 0), if x.kind = 1 then (if x.num = 1 then (if r = true then 1 else 0) else if lkS c x.num = 0 then 0 else upF c x.num) else 0⟩
def qB (c : List Nd) (r : Bool) (k : Int) : Option Pn := (get c k).map (pB c r)
theorem qB_get {c : List Nd} {r : Bool} {k : Int} {x : Nd} (h : get c k = some x) : qB c r k = some (pB c r x) := by unfold qB; rw [h]; rfl
theorem qB_start (l : List Nd) : q1 l l.length = qB (clr l) false := by
  funext k
  unfold q1 qB
  rw [List.take_length]
  have hg : get (clr l) k = (get l k).map (fun x => { x with ents := [] }) := by
    unfold clr get
    induction l with
    | nil => rfl
    | cons x r ih =>
      rw [List.map_cons, List.find?_cons, List.find?_cons]
      by_cases h : x.num = k
      · rw [decide_eq_true h]; rfl
      · rw [decide_eq_false h]; exact ih
  rw [hg]
  cases get l k with
  | none => rfl
  | some x =>
    simp only [Option.map_some, Option.some.injEq]
    unfold frP pB
    simp only [lkS_clr]
    have : entL ([] : List (Tx × Int)) = fun _ => none := by funext z; rfl
    rw [this]
    simp
theorem entL_snoc {es : List (Tx × Int)} {e : Tx × Int} (h : entL es e.1 = none) : entL (es ++ [e]) = fun x => if x = e.1 then some e.2 else entL es x := by
  funext k
  unfold entL
  rw [List.find?_append]
  by_cases hk : k = e.1
  · rw [if_pos hk, hk]
    have : es.find? (fun z => decide (z.1 = e.1)) = none := by
      unfold entL at h
      simpa using h
    rw [this]
    simp
  · rw [if_neg hk]
    have : [e].find? (fun z => decide (z.1 = k)) = none := by simp; exact fun e' => hk e'.symm
    rw [this]; simp
theorem qB_enter {c : List Nd} (hs : Srt c) (r : Bool) {d : Int} {e : Tx × Int} {xd xk : Nd} (hd : get c d = some xd) (he : entL xd.ents e.1 = none) (hk : get c e.2 = some xk) (hdk : d ≠ e.2) (h1 : e.2 ≠ 1) (h0 : xk.kind = 1 → lkS c e.2 = 0) : qB (addB c d e) r = entQ (qB c r) d e.1 e.2 := by
  obtain ⟨xdm, xdn⟩ := get_some hd
  obtain ⟨xkm, xkn⟩ := get_some hk
  have lk : ∀ k, lkS (addB c d e) k = lkS c k + if e.2 = k then 1 else 0 := fun k => by
    have := sumF_updL (fun x => nameN x.ents k) hs hd (fun x => { x with ents := x.ents ++ [e] })
    simp only [nameN_snoc] at this
    rw [lkS_sum, lkS_sum]
    unfold addB
    omega
  have gt : ∀ k, get (addB c d e) k = if k = d then (get c k).map (fun x => { x with ents := x.ents ++ [e] }) else get c k := fun k => get_updL c d k _ (fun _ => rfl)
  have nms : ∀ x : Nd, ∀ k, k ≠ e.2 → nmsB { x with ents := x.ents ++ [e] } k = nmsB x k := fun x k hne => by
    rw [Bool.eq_iff_iff, nmsB_iff, nmsB_iff]
    simp only [nameN_snoc]
    rw [if_neg (fun e' => hne e'.symm)]; simp
  have up : ∀ k, k ≠ e.2 → upF (addB c d e) k = upF c k := fun k hkn => upF_updL (fun _ => rfl) (fun x _ _ => nms x k hkn)
  have same : ∀ x : Nd, x.num ≠ e.2 → pB (addB c d e) r x = pB c r x := fun x hx => by
    unfold pB
    rw [lk, if_neg (fun e' => hx e'.symm), up _ hx]; rfl
  funext k
  unfold entQ
  by_cases hk1 : k = e.2
  · subst hk1
    rw [if_pos rfl]
    have hg : get (addB c d e) e.2 = some xk := by rw [gt, if_neg (fun e' => hdk e'.symm)]; exact hk
    rw [qB_get hg, qB_get hk]
    simp only [Option.map_some, Option.some.injEq]
    unfold pB named1
    simp only [xkn, lk, if_true]
    have h11 : ¬ (e.2 = 1 ∧ r = true) := fun h => h1 h.1
    rw [if_neg h11]
    have hl1 : ((lkS c e.2 + 1 : Nat) : Int) + 0 = (lkS c e.2 : Int) + 0 + 1 := by omega
    rw [hl1]
    congr 1
    · by_cases hkk : xk.kind = 1
      · rw [if_pos hkk, if_pos hkk, if_neg h1, if_neg (by omega)]
        have hz : ∀ z ∈ c, nmsB z e.2 = false := fun z hz => by
          have h2 := sumF_mem (fun x => nameN x.ents e.2) hz
          have h3 := h0 hkk
          rw [lkS_sum] at h3
          cases hb : nmsB z e.2 with
          | false => rfl
          | true =>
            have := nmsB_iff.1 hb
            omega
        refine upF_of ⟨_, updL_mem xdm, ?_⟩ (fun y hy hb => ?_)
        · rw [if_pos xdn, nmsB_iff]
          simp only [nameN_snoc]
          simp
        · obtain ⟨z, hzm, h4 | h4⟩ := mem_updL hy
          · rw [h4.2]; exact h4.1
          · rw [h4.2, hz z hzm] at hb; cases hb
      · rw [if_neg hkk, if_neg hkk, if_neg hkk]
  · rw [if_neg hk1]
    by_cases hk2 : k = d
    · subst hk2
      rw [if_pos rfl]
      have hg : get (addB c k e) k = some { xd with ents := xd.ents ++ [e] } := by rw [gt, if_pos rfl, hd]; rfl
      rw [qB_get hg, qB_get hd]
      simp only [Option.map_some, Option.some.injEq]
      unfold pB putEnt
      simp only [xdn, lk, up k hk1]
      rw [entL_snoc he, if_neg (fun e' : e.2 = k => hk1 e'.symm)]
      simp
    · rw [if_neg hk2]
      unfold qB
      rw [gt, if_neg hk2]
      cases hx : get c k with
      | none => rfl
      | some x =>
        simp only [Option.map_some, Option.some.injEq]
        exact same x (by rw [(get_some hx).2]; exact hk1)
/-- The root has its own name and place. -/
theorem qB_root {c : List Nd} {x : Nd} (hx : get c 1 = some x) (hk : x.kind = 1) (h0 : lkS c 1 = 0) : qB c true = fun k => if k = 1 then some { pB c false x with links := 1, up := 1 } else qB c false k := by
  obtain ⟨xm, xn⟩ := get_some hx
  funext k
  by_cases h : k = 1
  · rw [if_pos h, h, qB_get hx]
    congr 1
    unfold pB
    simp only [xn, h0, hk, if_true]
    simp
  · rw [if_neg h]
    unfold qB
    cases hg : get c k with
    | none => rfl
    | some y =>
      have hyn := (get_some hg).2
      simp only [Option.map_some, Option.some.injEq]
      have hy1 : y.num ≠ 1 := by rw [hyn]; exact h
      unfold pB
      simp only [hy1, false_and, if_false]
theorem qB_end {X : Im} (h : WF X) : qB X.l true = qOf X.l := by
  funext k
  unfold qB qOf
  cases hg : get X.l k with
  | none => rfl
  | some x =>
    obtain ⟨xm, xn⟩ := get_some hg
    simp only [Option.map_some, Option.some.injEq]
    unfold pB pnOf
    have e1 : (lkS X.l x.num : Int) + (if x.num = 1 ∧ true = true then 1 else 0) = (lks X.l x.num : Int) := by
      unfold lks
      by_cases h1 : x.num = 1
      · simp [h1]
      · simp [h1]
    rw [e1]
    congr 1
    by_cases hk : x.kind = 1
    · rw [if_pos hk, if_pos hk]
      by_cases h1 : x.num = 1
      · rw [if_pos h1, if_pos rfl, h1]
        exact (upF_none (fun z hz => by
          cases hb : nmsB z 1 with
          | false => rfl
          | true =>
            obtain ⟨e, he, he2⟩ := nameN_pos.1 (nmsB_iff.1 hb)
            exact absurd he2 (h.es z hz e he).2.1)).symm
      · rw [if_neg h1]
        have h2 := h.lk1 x xm
        unfold lks at h2
        rw [if_neg h1] at h2
        rw [if_neg (by omega)]
    · rw [if_neg hk, if_neg hk]
/-- Who has its map of entries. -/
def mdF (l : List Nd) (I : Nat) (k : Int) : Bool := (l.take I).any (fun x => decide (x.num = k) && decide (x.kind = 1))
theorem mdF_step {l : List Nd} {I : Nat} {x : Nd} (hx : l[I]? = some x) : (x.kind = 1 → mdF l (I + 1) = fun k => if k = x.num then true else mdF l I k) ∧ (x.kind ≠ 1 → mdF l (I + 1) = mdF l I) := by
  have e : ∀ k, mdF l (I + 1) k = (mdF l I k || (decide (x.num = k) && decide (x.kind = 1))) := fun k => by
    unfold mdF
    rw [List.take_add_one, hx, List.any_append]
    simp
  refine ⟨fun hk => funext fun k => ?_, fun hk => funext fun k => ?_⟩
  · rw [e k]
    by_cases h : k = x.num
    · rw [if_pos h, decide_eq_true h.symm, decide_eq_true hk]; simp
    · rw [if_neg h, decide_eq_false (fun e => h e.symm)]; simp
  · rw [e k, decide_eq_false hk]; simp
theorem mdF_all {l : List Nd} (hs : Srt l) {k : Int} {x : Nd} (hx : get l k = some x) : mdF l l.length k = decide (x.kind = 1) := by
  obtain ⟨xm, xn⟩ := get_some hx
  unfold mdF
  rw [List.take_length, Bool.eq_iff_iff, List.any_eq_true, decide_eq_true_eq]
  constructor
  · rintro ⟨y, hy, h⟩
    simp only [Bool.and_eq_true, decide_eq_true_eq] at h
    have := get_mem hs hy
    rw [h.1, hx] at this
    injection this with this
    rw [this]; exact h.2
  · intro hk
    exact ⟨x, xm, by simp [xn, hk]⟩
theorem mdF_self {l : List Nd} (hs : Srt l) {I : Nat} {x : Nd} (hx : l[I]? = some x) : mdF l I x.num = false := by
  unfold mdF
  rw [List.any_eq_false]
  intro z hz
  have hI := (List.getElem?_eq_some_iff.1 hx).1
  obtain ⟨j, hj, hzj⟩ := List.getElem_of_mem hz
  rw [List.length_take] at hj
  have := List.pairwise_iff_getElem.1 hs j I (by omega) hI (by omega)
  rw [List.getElem_take] at hzj
  obtain ⟨_, hyI⟩ := List.getElem?_eq_some_iff.1 hx
  rw [hzj, hyI] at this
  have : z.num ≠ x.num := by omega
  simp [this]
end Go.Proofs.YtcogkhcfpgelhaaGreat

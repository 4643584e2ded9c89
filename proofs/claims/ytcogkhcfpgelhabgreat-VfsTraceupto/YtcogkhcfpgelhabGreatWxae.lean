import Derived.Test.YtcogkhcfpgelhabGreatWxab
import Derived.Test.YtcogkhcfpgelhabGreatWxad
namespace Go.Proofs.YtcogkhcfpgelhabGreat
open Go.RowKit
set_option linter.unusedVariables false
/-! ### build, step by step -/
def frP (x : Nd) : Pn := ⟨x.kind, x.mt, x.data, x.tgt, fun _ => none, 0, 0, 0⟩
def q1 (l : List Nd) (I : Nat) (k : Int) : Option Pn := (get (l.take I) k).map frP
theorem q1_step {l : List Nd} (hs : Srt l) {I : Nat} {x : Nd} (hx : l[I]? = some x) : q1 l (I + 1) = (fun k => if k = x.num then some (frP x) else q1 l I k) ∧ q1 l I x.num = none := by
  have hI := (List.getElem?_eq_some_iff.1 hx).1
  have hn : get (l.take I) x.num = none := by
    rw [get_none]
    intro z hz
    obtain ⟨j, hj, hzj⟩ := List.getElem_of_mem hz
    rw [List.length_take] at hj
    have := List.pairwise_iff_getElem.1 hs j I (by omega) hI (by omega)
    rw [List.getElem_take] at hzj
    obtain ⟨_, hyI⟩ := List.getElem?_eq_some_iff.1 hx
    rw [hzj, hyI] at this
    omega
  refine ⟨funext fun k => ?_, by unfold q1; rw [hn]; rfl⟩
  unfold q1
  have e : get (l.take (I + 1)) k = (get (l.take I) k).or (get [x] k) := by
    rw [List.take_add_one, hx, get_append]; rfl
  rw [e]
  by_cases hk : k = x.num
  · rw [if_pos hk, hk, hn]
    unfold get
    simp
  · rw [if_neg hk]
    have : get [x] k = none := by unfold get; simp; exact fun e => hk e.symm
    rw [this]; simp
def clr (l : List Nd) : List Nd := l.map (fun x => { x with ents := [] })
def cI (l : List Nd) (I : Nat) : List Nd := l.take I ++ clr (l.drop I)
def inn (l : List Nd) (I : Nat) (x : Nd) (J : Nat) : List Nd := l.take I ++ { x with ents := x.ents.take J } :: clr (l.drop (I + 1))
theorem drop_cons {l : List Nd} {I : Nat} {x : Nd} (hx : l[I]? = some x) : l.drop I = x :: l.drop (I + 1) := by
  obtain ⟨hI, rfl⟩ := List.getElem?_eq_some_iff.1 hx
  exact List.drop_eq_getElem_cons hI
theorem inn_zero {l : List Nd} {I : Nat} {x : Nd} (hx : l[I]? = some x) : cI l I = inn l I x 0 := by
  unfold cI inn
  rw [drop_cons hx]
  rfl
theorem inn_full {l : List Nd} {I : Nat} {x : Nd} (hx : l[I]? = some x) {J : Nat} (hJ : J = x.ents.length) : inn l I x J = cI l (I + 1) := by
  unfold cI inn
  rw [hJ, List.take_length, List.take_add_one, hx]
  simp
theorem cI_all (l : List Nd) {I : Nat} (h : I = l.length) : cI l I = l := by
  unfold cI clr
  rw [h, List.take_length, List.drop_length]
  simp
theorem cI_none (l : List Nd) : cI l 0 = clr l := rfl
/-- All but the entries stays. -/
theorem inn_nums {l : List Nd} {I : Nat} {x : Nd} (hx : l[I]? = some x) (J : Nat) : (inn l I x J).map (fun z => (z.num, z.kind)) = l.map (fun z => (z.num, z.kind)) := by
  have : l = l.take I ++ x :: l.drop (I + 1) := by rw [← drop_cons hx, List.take_append_drop]
  conv => rhs; rw [this]
  unfold inn clr
  simp only [List.map_append, List.map_cons, List.map_map]
  rfl
theorem srt_inn {l : List Nd} (hs : Srt l) {I : Nat} {x : Nd} (hx : l[I]? = some x) (J : Nat) : Srt (inn l I x J) := by
  have h1 := inn_nums hx J
  have h2 : (inn l I x J).map (·.num) = l.map (·.num) := by
    have := congrArg (List.map Prod.fst) h1
    rw [List.map_map, List.map_map] at this
    exact this
  have h3 : (l.map (·.num)).Pairwise (· < ·) := List.pairwise_map.2 hs
  rw [← h2] at h3
  exact List.pairwise_map.1 h3
theorem updL_mid {A B : List Nd} {y : Nd} {d : Int} (f : Nd → Nd) (h1 : y.num = d) (hA : ∀ z ∈ A, z.num ≠ d) (hB : ∀ z ∈ B, z.num ≠ d) : updL (A ++ y :: B) d f = A ++ f y :: B := by
  unfold updL
  rw [List.map_append, List.map_cons, if_pos h1]
  have e1 := updL_not A d f hA
  have e2 := updL_not B d f hB
  unfold updL at e1 e2
  rw [e1, e2]
/-- An entry behind those that a directory has. -/
def addB (c : List Nd) (d : Int) (e : Tx × Int) : List Nd := updL c d (fun x => { x with ents := x.ents ++ [e] })
theorem inn_step {l : List Nd} (hs : Srt l) {I : Nat} {x : Nd} (hx : l[I]? = some x) {J : Nat} {e : Tx × Int} (he : x.ents[J]? = some e) : inn l I x (J + 1) = addB (inn l I x J) x.num e := by
  have hss := srt_inn hs hx J
  unfold addB
  have h0 : ∀ z ∈ l.take I, z.num ≠ x.num := fun z hz => by
    have := (List.pairwise_append.1 hss).2.2 z hz { x with ents := x.ents.take J } (List.mem_cons_self ..)
    simp only at this
    omega
  have h1 : ∀ z ∈ clr (l.drop (I + 1)), z.num ≠ x.num := fun z hz => by
    have := (List.pairwise_cons.1 (List.pairwise_append.1 hss).2.1).1 z hz
    simp only at this
    omega
  unfold inn
  rw [updL_mid (y := { x with ents := x.ents.take J }) _ rfl h0 h1]
  simp only
  rw [List.take_add_one, he]
  rfl
theorem get_inn {l : List Nd} (hs : Srt l) {I : Nat} {x : Nd} (hx : l[I]? = some x) (J : Nat) : get (inn l I x J) x.num = some { x with ents := x.ents.take J } := get_mem (srt_inn hs hx J) (x := { x with ents := x.ents.take J }) (List.mem_append_right _ (List.mem_cons_self ..))
/-- Who is in the one is in the other. -/
theorem inn_get {l : List Nd} {I : Nat} {x : Nd} (hx : l[I]? = some x) (J : Nat) (k : Int) : (get (inn l I x J) k).map (fun z => (z.num, z.kind)) = (get l k).map (fun z => (z.num, z.kind)) := by
  have key : ∀ a b : List Nd, a.map (fun z => (z.num, z.kind)) = b.map (fun z => (z.num, z.kind)) → (get a k).map (fun z => (z.num, z.kind)) = (get b k).map (fun z => (z.num, z.kind)) := by
    intro a
    induction a with
    | nil =>
      intro b hb
      cases b with
      | nil => rfl
      | cons y r => simp at hb
    | cons z r ih =>
      intro b hb
      cases b with
      | nil => simp at hb
      | cons y t =>
        rw [List.map_cons, List.map_cons] at hb
        injection hb with h1 h2
        injection h1 with h3 h4
        unfold get
        rw [List.find?_cons, List.find?_cons, h3]
        by_cases hk : y.num = k
        · rw [decide_eq_true hk]
          simp [h3, h4]
        · rw [decide_eq_false hk]
          exact ih t h2
  exact key _ _ (inn_nums hx J)
theorem nameN_take (es : List (Tx × Int)) (J : Nat) (k : Int) : nameN (es.take J) k ≤ nameN es k := by
  unfold nameN
  exact ((List.take_sublist J es).filter _).length_le
theorem lkS_clr (l : List Nd) (k : Int) : lkS (clr l) k = 0 := by
  unfold lkS clr
  induction l with
  | nil => rfl
  | cons x r ih =>
    simp only [List.map_cons, List.sum_cons, nameN_nil]
    simpa using ih
theorem lkS_app (a b : List Nd) (k : Int) : lkS (a ++ b) k = lkS a k + lkS b k := by rw [lkS_sum, lkS_sum, lkS_sum, sumF_append]
theorem lkS_inn {l : List Nd} {I : Nat} {x : Nd} (hx : l[I]? = some x) {J : Nat} {e : Tx × Int} (he : x.ents[J]? = some e) (k : Int) : lkS (inn l I x J) k + (if e.2 = k then 1 else 0) ≤ lkS l k := by
  have : l = l.take I ++ x :: l.drop (I + 1) := by rw [← drop_cons hx, List.take_append_drop]
  conv => rhs; rw [this]
  unfold inn
  rw [lkS_app, lkS_app]
  have h1 : lkS ({ x with ents := x.ents.take J } :: clr (l.drop (I + 1))) k = nameN (x.ents.take J) k + lkS (clr (l.drop (I + 1))) k := by unfold lkS; simp
  have h2 : lkS (x :: l.drop (I + 1)) k = nameN x.ents k + lkS (l.drop (I + 1)) k := by unfold lkS; simp
  have h3 := nameN_take x.ents (J + 1) k
  rw [List.take_add_one, he] at h3
  have h4 := nameN_snoc (x.ents.take J) e k
  have h5 : (some e).toList = [e] := rfl
  rw [h5, h4] at h3
  rw [h1, h2, lkS_clr]
  omega
/-- An inode as it stands while it is built. -/
def pB (c : List Nd) (r : Bool) (x : Nd) : Pn := ⟨x.kind, x.mt, x.data, x.tgt, entL x.ents, x.ents.length, (lkS c x.num : Int) + (if x.num = 1 ∧ r = true then 1 else 0), if x.kind = 1 then (if x.num = 1 then (if r = true then 1 else 0) else if lkS c x.num = 0 then 0 else upF c x.num) else 0⟩
def qB (c : List Nd) (r : Bool) (k : Int) : Option Pn := (get c k).map (pB c r)
theorem qB_get {c : List Nd} {r : Bool} {k : Int} {x : Nd} (h : get c k = some x) : qB c r k = some (pB c r x) := by unfold qB; rw [h]; rfl
theorem qB_start (l : List Nd) : q1 l l.length = qB (clr l) false := by
  funext k
  unfold q1 qB
  rw [List.take_length]
  have hg : get (clr l) k = (get l k).map (fun x => { x with ents := [] }) := by
    unfold clr get
    induction l with
    | nil => rfl
    | cons x r ih =>
      rw [List.map_cons, List.find?_cons, List.find?_cons]
      by_cases h : x.num = k
      · rw [decide_eq_true h]; rfl
      · rw [decide_eq_false h]; exact ih
  rw [hg]
  cases get l k with
  | none => rfl
  | some x =>
    simp only [Option.map_some, Option.some.injEq]
    unfold frP pB
    simp only [lkS_clr]
    have : entL ([] : List (Tx × Int)) = fun _ => none := by funext z; rfl
    rw [this]
    simp
theorem entL_snoc {es : List (Tx × Int)} {e : Tx × Int} (h : entL es e.1 = none) : entL (es ++ [e]) = fun x => if x = e.1 then some e.2 else entL es x := by
  funext k
  unfold entL
  rw [List.find?_append]
  by_cases hk : k = e.1
  · rw [if_pos hk, hk]
    have : es.find? (fun z => decide (z.1 = e.1)) = none := by
      unfold entL at h
      simpa using h
    rw [this]
    simp
  · rw [if_neg hk]
    have : [e].find? (fun z => decide (z.1 = k)) = none := by simp; exact fun e' => hk e'.symm
    rw [this]; simp
theorem qB_enter {c : List Nd} (hs : Srt c) (r : Bool) {d : Int} {e : Tx × Int} {xd xk : Nd} (hd : get c d = some xd) (he : entL xd.ents e.1 = none) (hk : get c e.2 = some xk) (hdk : d ≠ e.2) (h1 : e.2 ≠ 1) (h0 : xk.kind = 1 → lkS c e.2 = 0) : qB (addB c d e) r = entQ (qB c r) d e.1 e.2 := by
  obtain ⟨xdm, xdn⟩ := get_some hd
  obtain ⟨xkm, xkn⟩ := get_some hk
  have lk : ∀ k, lkS (addB c d e) k = lkS c k + if e.2 = k then 1 else 0 := fun k => by
    have := sumF_updL (fun x => nameN x.ents k) hs hd (fun x => { x with ents := x.ents ++ [e] })
    simp only [nameN_snoc] at this
    rw [lkS_sum, lkS_sum]
    unfold addB
    omega
  have gt : ∀ k, get (addB c d e) k = if k = d then (get c k).map (fun x => { x with ents := x.ents ++ [e] }) else get c k := fun k => get_updL c d k _ (fun _ => rfl)
  have nms : ∀ x : Nd, ∀ k, k ≠ e.2 → nmsB { x with ents := x.ents ++ [e] } k = nmsB x k := fun x k hne => by
    rw [Bool.eq_iff_iff, nmsB_iff, nmsB_iff]
    simp only [nameN_snoc]
    rw [if_neg (fun e' => hne e'.symm)]; simp
  have up : ∀ k, k ≠ e.2 → upF (addB c d e) k = upF c k := fun k hkn => upF_updL (fun _ => rfl) (fun x _ _ => nms x k hkn)
  have same : ∀ x : Nd, x.num ≠ e.2 → pB (addB c d e) r x = pB c r x := fun x hx => by
    unfold pB
    rw [lk, if_neg (fun e' => hx e'.symm), up _ hx]; rfl
  funext k
  unfold entQ
  by_cases hk1 : k = e.2
  · subst hk1
    rw [if_pos rfl]
    have hg : get (addB c d e) e.2 = some xk := by rw [gt, if_neg (fun e' => hdk e'.symm)]; exact hk
    rw [qB_get hg, qB_get hk]
    simp only [Option.map_some, Option.some.injEq]
    unfold pB named1
    simp only [xkn, lk, if_true]
    have h11 : ¬ (e.2 = 1 ∧ r = true) := fun h => h1 h.1
    rw [if_neg h11]
    have hl1 : ((lkS c e.2 + 1 : Nat) : Int) + 0 = (lkS c e.2 : Int) + 0 + 1 := by omega
    rw [hl1]
    congr 1
    · by_cases hkk : xk.kind = 1
      · rw [if_pos hkk, if_pos hkk, if_neg h1, if_neg (by omega)]
        have hz : ∀ z ∈ c, nmsB z e.2 = false := fun z hz => by
          have h2 := sumF_mem (fun x => nameN x.ents e.2) hz
          have h3 := h0 hkk
          rw [lkS_sum] at h3
          cases hb : nmsB z e.2 with
          | false => rfl
          | true =>
            have := nmsB_iff.1 hb
            omega
        refine upF_of ⟨_, updL_mem xdm, ?_⟩ (fun y hy hb => ?_)
        · rw [if_pos xdn, nmsB_iff]
          simp only [nameN_snoc]
          simp
        · obtain ⟨z, hzm, h4 | h4⟩ := mem_updL hy
          · rw [h4.2]; exact h4.1
          · rw [h4.2, hz z hzm] at hb; cases hb
      · rw [if_neg hkk, if_neg hkk, if_neg hkk]
  · rw [if_neg hk1]
    by_cases hk2 : k = d
    · subst hk2
      rw [if_pos rfl]
      have hg : get (addB c k e) k = some { xd with ents := xd.ents ++ [e] } := by rw [gt, if_pos rfl, hd]; rfl
      rw [qB_get hg, qB_get hd]
      simp only [Option.map_some, Option.some.injEq]
      unfold pB putEnt
      simp only [xdn, lk, up k hk1]
      rw [entL_snoc he, if_neg (fun e' : e.2 = k => hk1 e'.symm)]
      simp
    · rw [if_neg hk2]
      unfold qB
      rw [gt, if_neg hk2]
      cases hx : get c k with
      | none => rfl
      | some x =>
        simp only [Option.map_some, Option.some.injEq]
        exact same x (by rw [(get_some hx).2]; exact hk1)
/-- The root has its own name and place. -/
theorem qB_root {c : List Nd} {x : Nd} (hx : get c 1 = some x) (hk : x.kind = 1) (h0 : lkS c 1 = 0) : qB c true = fun k => if k = 1 then some { pB c false x with links := 1, up := 1 } else qB c false k := by
  obtain ⟨xm, xn⟩ := get_some hx
  funext k
  by_cases h : k = 1
  · rw [if_pos h, h, qB_get hx]
    congr 1
    unfold pB
    simp only [xn, h0, hk, if_true]
    simp
  · rw [if_neg h]
    unfold qB
    cases hg : get c k with
    | none => rfl
    | some y =>
      have hyn := (get_some hg).2
      simp only [Option.map_some, Option.some.injEq]
      have hy1 : y.num ≠ 1 := by rw [hyn]; exact h
      unfold pB
      simp only [hy1, false_and, if_false]
theorem qB_end {X : Im} (h : WF X) : qB X.l true = qOf X.l := by
  funext k
  unfold qB qOf
  cases hg : get X.l k with
  | none => rfl
  | some x =>
    obtain ⟨xm, xn⟩ := get_some hg
    simp only [Option.map_some, Option.some.injEq]
    unfold pB pnOf
    have e1 : (lkS X.l x.num : Int) + (if x.num = 1 ∧ true = true then 1 else 0) = (lks X.l x.num : Int) := by
      unfold lks
      by_cases h1 : x.num = 1
      · simp [h1]
      · simp [h1]
    rw [e1]
    congr 1
    by_cases hk : x.kind = 1
    · rw [if_pos hk, if_pos hk]
      by_cases h1 : x.num = 1
      · rw [if_pos h1, if_pos rfl, h1]
        exact (upF_none (fun z hz => by
          cases hb : nmsB z 1 with
          | false => rfl
          | true =>
            obtain ⟨e, he, he2⟩ := nameN_pos.1 (nmsB_iff.1 hb)
            exact absurd he2 (h.es z hz e he).2.1)).symm
      · rw [if_neg h1]
        have h2 := h.lk1 x xm
        unfold lks at h2
        rw [if_neg h1] at h2
        rw [if_neg (by omega)]
    · rw [if_neg hk, if_neg hk]
/-- Who has its map of entries. -/
def mdF (l : List Nd) (I : Nat) (k : Int) : Bool := (l.take I).any (fun x => decide (x.num = k) && decide (x.kind = 1))
theorem mdF_step {l : List Nd} {I : Nat} {x : Nd} (hx : l[I]? = some x) : (x.kind = 1 → mdF l (I + 1) = fun k => if k = x.num then true else mdF l I k) ∧ (x.kind ≠ 1 → mdF l (I + 1) = mdF l I) := by
  have e : ∀ k, mdF l (I + 1) k = (mdF l I k || (decide (x.num = k) && decide (x.kind = 1))) := fun k => by
    unfold mdF
    rw [List.take_add_one, hx, List.any_append]
    simp
  refine ⟨fun hk => funext fun k => ?_, fun hk => funext fun k => ?_⟩
  · rw [e k]
    by_cases h : k = x.num
    · rw [if_pos h, decide_eq_true h.symm, decide_eq_true hk]; simp
    · rw [if_neg h, decide_eq_false (fun e => h e.symm)]; simp
  · rw [e k, decide_eq_false hk]; simp
theorem mdF_all {l : List Nd} (hs : Srt l) {k : Int} {x : Nd} (hx : get l k = some x) : mdF l l.length k = decide (x.kind = 1) := by
  obtain ⟨xm, xn⟩ := get_some hx
  unfold mdF
  rw [List.take_length, Bool.eq_iff_iff, List.any_eq_true, decide_eq_true_eq]
  constructor
  · rintro ⟨y, hy, h⟩
    simp only [Bool.and_eq_true, decide_eq_true_eq] at h
    have := get_mem hs hy
    rw [h.1, hx] at this
    injection this with this
    rw [this]; exact h.2
  · intro hk
    exact ⟨x, xm, by simp [xn, hk]⟩
theorem mdF_self {l : List Nd} (hs : Srt l) {I : Nat} {x : Nd} (hx : l[I]? = some x) : mdF l I x.num = false := by
  unfold mdF
  rw [List.any_eq_false]
  intro z hz
  have hI := (List.getElem?_eq_some_iff.1 hx).1
  obtain ⟨j, hj, hzj⟩ := List.getElem_of_mem hz
  rw [List.length_take] at hj
  have := List.pairwise_iff_getElem.1 hs j I (by omega) hI (by omega)
  rw [List.getElem_take] at hzj
  obtain ⟨_, hyI⟩ := List.getElem?_eq_some_iff.1 hx
  rw [hzj, hyI] at this
  have : z.num ≠ x.num := by omega
  simp [this]
end Go.Proofs.YtcogkhcfpgelhabGreat

namespace Go.Proofs.YtcogkhcfpgelhabGreat
open Go.RowKit
set_option linter.unusedVariables false
set_option maxRecDepth 100000
variable {w w' W V : World} {X : Im}
/-- How build's first loop stands behind I inodes (and maybe one more whose bytes are not counted yet). -/
def BA (V : World) (X : Im) (fb mb : Nat) (H I : Nat) (wr : World) : Prop := Nw V wr ∧ ∃ L, FsG (fun _ => false) fb mb L ⟨X.nodes, X.bytes, H, X.next⟩ (q1 X.l I) I wr ∧ ∀ k, BkG (fun _ => false) fb mb L (q1 X.l I) k → V.heap.size ≤ k
theorem ba_step {fb mb H I : Nat} {wr w5 : World} {y : Nq} (hB : BA V X fb mb H I wr) (hs : Srt X.l) (hI : I ≤ 4096) (hx : X.l[I]? = some y.x) (h64 : I64 y.x.num) {a5 : Option Addr} {n5 c5 : Nat} {od : Option Nat} (f : Nw (wr.alloc (.cells (nqC y) 44)) w5) (hO : OgB od (.slice a5 n5 c5) y.x.data w5) (hod : ∀ g, od = some g → wr.heap.size < g) :
    ∃ W, (Instr.mapUpdate 80 (.map (some mb)) (.int .i64 y.x.num) (.pointer (some ⟨w5.heap.size, 0, none⟩))).run Tryz.prog (w5.alloc (.cells #[.int .i64 y.x.kind, .int .u32 y.x.mt.mode, .int .u32 y.x.mt.uid, .int .u32 y.x.mt.gid, .int .i64 y.x.mt.time, .int .i32 y.x.mt.nano, .slice a5 n5 c5, .string (mk y.x.tgt), .map none, .int .i64 0, .int .i64 0] 91)) = .ok () W ∧ BA V X fb mb H (I + 1) W ∧ W.heap[wr.heap.size]? = some (.cells (nqC y) 44) := by
  obtain ⟨h1, L, h2, h3⟩ := hB
  have hN3 : Nw wr (wr.alloc (.cells (nqC y) 44)) := (Fr.refl _ _).alloc _
  have hNW := hN3.trans f
  have hN6 : Nw w5 (w5.alloc (.cells (ndC (frP y.x) (.slice a5 n5 c5) (.map none)) 91)) := (Fr.refl _ _).alloc _
  obtain ⟨e1, e2⟩ := q1_step hs hx
  have hs5 := hNW.size
  obtain ⟨W, r1, r2, r3⟩ := ((h2.nw hNW).nw hN6).more (by omega) h64 e2 rfl (p := frP y.x) (ib := w5.heap.size) (od := od) (fun k hk e => by have := (h2.nw hNW).lt k hk; omega) (fun g hg k hk e => by have := h2.lt k hk; have := hod g hg; omega) (nh w5 _) (hO.nw hN6) ⟨rfl, fun _ => rfl⟩
  have hmb : V.heap.size ≤ mb := h3 mb (.inr (.inl rfl))
  have hnode := f.heap (nh wr (.cells (nqC y) 44))
  rw [← e1] at r2
  refine ⟨W, r1, ⟨((h1.trans hNW).trans hN6).then r3 (fun i hi => .inr (by omega)), _, r2, fun k hk => ?_⟩, r3.heap (hN6.heap hnode) (fun e => ?_)⟩
  · have hsV := h1.size
    rcases hk with rfl | rfl | ⟨n, p, hp, hk⟩
    · exact h3 k (.inl rfl)
    · exact hmb
    · rw [e1] at hp
      by_cases hn : n = y.x.num
      · simp only [if_pos hn] at hk
        rcases hk with rfl | ⟨hk, _⟩ | hk
        · have := (h1.trans hNW).size; omega
        · cases hk
        · have := hod k hk; omega
      · simp only [if_neg hn] at hp hk
        exact h3 k (.inr (.inr ⟨n, p, hp, hk⟩))
  · have := h2.mp.lt; omega
theorem ba_held {fb mb H I H2 : Nat} (hB : BA V X fb mb H I W) : BA V X fb mb H2 I (W.drew.setCell ⟨fb, 3, none⟩ (.int .i64 H2)) ∧ W.cell? ⟨fb, 3, none⟩ = some (.int .i64 H) ∧ W.frozen? ⟨fb, 3, none⟩ = false ∧ W.cell? ⟨fb, 0, none⟩ = some (.map (some mb)) := by
  obtain ⟨h1, L, h2, h3⟩ := hB
  have f6 : Fr (fun k => k = fb) W (W.drew.setCell ⟨fb, 3, none⟩ (.int .i64 H2)) := ((Fr.refl (fun k => k = fb) W).drew).setCell ⟨fb, 3, none⟩ _ (.inl rfl)
  have hfb := h3 fb (.inl rfl)
  refine ⟨⟨h1.then f6 (fun i hi => .inr (by omega)), L, h2.head f6 ?_, h3⟩, (rc h2.blk 3 _ rfl).1, (rc h2.blk 3 (.int .i64 H) rfl).2, (rc h2.blk 0 _ rfl).1⟩
  have := rset (w := W.drew) h2.blk 3 (.int .i64 H2)
  rw [this]; rfl
/-- How build's second loop stands. -/
def BB (V : World) (X : Im) (fb mb I : Nat) (wr : World) : Prop := Nw V wr ∧ ∃ L, FsG (mdF X.l I) fb mb L (hOf X) (qB (cI X.l I) (decide (0 < I))) X.l.length wr ∧ ∀ k, BkG (mdF X.l I) fb mb L (qB (cI X.l I) (decide (0 < I))) k → V.heap.size ≤ k
/-- And within an inode. -/
def BC (V : World) (X : Im) (fb mb I : Nat) (y : Nq) (J nb : Nat) (wr : World) : Prop := Nw V wr ∧ wr.heap[nb]? = some (.cells (nqC y) 44) ∧ ∃ L, FsG (mdF X.l (I + 1)) fb mb L (hOf X) (qB (inn X.l I y.x J) (decide (0 < I))) X.l.length wr ∧ ∀ k, BkG (mdF X.l (I + 1)) fb mb L (qB (inn X.l I y.x J) (decide (0 < I))) k → V.heap.size ≤ k
theorem ba_bb {fb mb I : Nat} (hB : BA V X fb mb (heldF X.l) I W) (hI : I = X.l.length) : BB V X fb mb 0 W := by
  obtain ⟨h1, L, h2, h3⟩ := hB
  subst hI
  have e : q1 X.l X.l.length = qB (cI X.l 0) (decide (0 < 0)) := by rw [qB_start]; rfl
  have e2 : (fun _ => false) = mdF X.l 0 := by funext k; rfl
  rw [e, e2] at h2 h3
  exact ⟨h1, L, h2, h3⟩
/-- A file's inode, or a link's: it has no map. -/
theorem bb_file {fb mb I : Nat} {wr : World} {y : Nq} (hB : BB V X fb mb I wr) (hx : X.l[I]? = some y.x) (hk : y.x.kind ≠ 1) : BC V X fb mb I y 0 wr.heap.size (wr.alloc (.cells (nqC y) 44)) := by
  obtain ⟨h1, L, h2, h3⟩ := hB
  have hN : Nw wr (wr.alloc (.cells (nqC y) 44)) := (Fr.refl _ _).alloc _
  have e := (mdF_step hx).2 hk
  rw [inn_zero hx] at h2 h3
  refine ⟨h1.trans hN, nh wr _, L, ?_, ?_⟩
  · rw [e]; exact h2.nw hN
  · rw [e]; exact h3
/-- A directory's: it gets its map. -/
theorem bb_dir {fb mb I : Nat} {wr U : World} {y : Nq} (hB : BB V X fb mb I wr) (hs : Srt X.l) (hx : X.l[I]? = some y.x) (hk : y.x.kind = 1) (h64 : I64 y.x.num) (hU : U = wr.alloc (.cells (nqC y) 44)) :
    ∃ ib, (∀ W, Nw U W → (Instr.lookup 80 (.map (some mb)) (.int .i64 y.x.num) false).run Tryz.prog W = .ok (.pointer (some ⟨ib, 0, none⟩)) W ∧ W.cell? ⟨fb, 0, none⟩ = some (.map (some mb))) ∧ ib < wr.heap.size ∧ fb < wr.heap.size ∧
      (∃ u, U.cell? ⟨ib, 8, none⟩ = some u) ∧ U.frozen? ⟨ib, 8, none⟩ = false ∧ BC V X fb mb I y 0 wr.heap.size ((U.alloc (.map #[] 0)).drew.setCell ⟨ib, 8, none⟩ (.map (some U.heap.size))) ∧ (Instr.lookup 80 (.map (some mb)) (.int .i64 y.x.num) false).run Tryz.prog ((U.alloc (.map #[] 0)).drew.setCell ⟨ib, 8, none⟩ (.map (some U.heap.size))) = .ok (.pointer (some ⟨ib, 0, none⟩)) ((U.alloc (.map #[] 0)).drew.setCell ⟨ib, 8, none⟩ (.map (some U.heap.size))) ∧ ((U.alloc (.map #[] 0)).drew.setCell ⟨ib, 8, none⟩ (.map (some U.heap.size))).cell? ⟨fb, 0, none⟩ = some (.map (some mb)) := by
  obtain ⟨h1, L, h2, h3⟩ := hB
  have hN : Nw wr U := by rw [hU]; exact (Fr.refl _ _).alloc _
  have e := (mdF_step hx).1 hk
  rw [inn_zero hx] at h2 h3
  have hg := get_inn hs hx 0
  have hq : qB (inn X.l I y.x 0) (decide (0 < I)) y.x.num = some (pB (inn X.l I y.x 0) (decide (0 < I)) { y.x with ents := y.x.ents.take 0 }) := qB_get hg
  have hmd := mdF_self hs hx
  have hH := h2.nw hN
  obtain ⟨dv, ev, k1, k2, k3, k4⟩ := (hH.nd _ _ hq).blk
  obtain ⟨k4a, k4b, k4c⟩ := k4 hmd
  subst k4a
  have hib : (L y.x.num).ib < wr.heap.size := h2.lt _ (.inr (.inr ⟨_, _, hq, .inl rfl⟩))
  have hsz := hN.size
  have hN2 : Nw U (U.alloc (.map #[] 0)).drew := ((Fr.refl _ _).alloc _).drew
  have f5 : Fr (fun k => k = (L y.x.num).ib) U ((U.alloc (.map #[] 0)).drew.setCell ⟨(L y.x.num).ib, 8, none⟩ (.map (some U.heap.size))) := (hN2.any).setCell ⟨(L y.x.num).ib, 8, none⟩ _ (.inl rfl)
  have f6 : Fr (fun k => k = (L y.x.num).ib) (U.alloc (.map #[] 0)).drew ((U.alloc (.map #[] 0)).drew.setCell ⟨(L y.x.num).ib, 8, none⟩ (.map (some U.heap.size))) := (Fr.refl (fun k => k = (L y.x.num).ib) _).setCell ⟨(L y.x.num).ib, 8, none⟩ _ (.inl rfl)
  have hT := hH.turn hq (p' := pB (inn X.l I y.x 0) (decide (0 < I)) { y.x with ents := y.x.ents.take 0 }) (b' := true) (eb' := U.heap.size) (.inr (Nat.le_refl _)) f5 (fun k e => .inl e) (by
    refine ⟨dv, .map (some U.heap.size), ?_, ?_, fun _ => ⟨rfl, ?_⟩, fun h => by cases h⟩
    · have := rset (hN2.heap k1) 8 (.map (some U.heap.size))
      rw [this]; rfl
    · refine k2.kept f5 (fun g hg e => ?_)
      rw [hg] at k2
      have := k2.tg
      rw [e, tg_cells k1] at this
      exact absurd this (by decide)
    · refine (((Mp.made U).nw ((Fr.refl _ _).drew)).kept f6 (by omega)).cong (fun s _ => rfl))
  have hqe : (fun k => if k = y.x.num then some (pB (inn X.l I y.x 0) (decide (0 < I)) { y.x with ents := y.x.ents.take 0 }) else qB (inn X.l I y.x 0) (decide (0 < I)) k) = qB (inn X.l I y.x 0) (decide (0 < I)) := by
    funext k
    by_cases hk2 : k = y.x.num
    · rw [if_pos hk2, hk2, hq]
    · rw [if_neg hk2]
  rw [hqe, ← e] at hT
  have hnode : U.heap[wr.heap.size]? = some (.cells (nqC y) 44) := by rw [hU]; exact nh wr _
  refine ⟨(L y.x.num).ib, fun W hW => ⟨(hH.nw hW).look h64 hq, (rc (hH.nw hW).blk 0 _ rfl).1⟩, hib, h2.lt _ (.inl rfl), ⟨_, (rc k1 8 _ rfl).1⟩, (rc k1 8 (.map none) rfl).2, ⟨(h1.trans hN).then f5 (fun i hi => .inr (by have := h3 _ (.inr (.inr ⟨_, _, hq, .inl rfl⟩)); omega)), f5.heap hnode (by omega), _, hT, fun k hk => ?_⟩, ?_, (rc hT.blk 0 _ rfl).1⟩
  · have hsV := h1.size
    rcases hk with rfl | rfl | ⟨n, p, hp, hk⟩
    · exact h3 k (.inl rfl)
    · exact h3 k (.inr (.inl rfl))
    · by_cases hn : n = y.x.num
      · simp only [if_pos hn] at hk
        rcases hk with rfl | ⟨_, rfl⟩ | hk
        · exact h3 _ (.inr (.inr ⟨_, _, hq, .inl rfl⟩))
        · omega
        · exact h3 _ (.inr (.inr ⟨_, _, hq, .inr (.inr hk)⟩))
      · simp only [if_neg hn] at hk
        rw [e] at hk
        simp only [if_neg hn] at hk
        exact h3 k (.inr (.inr ⟨n, p, hp, hk⟩))
  · have := hT.look h64 hq
    simp only [if_pos] at this
    exact this
/-- One more entry. -/
theorem bc_step {fb mb I J nb : Nat} {wr U : World} {y : Nq} {e : Tx × Int} (hB : BC V X fb mb I y J nb wr) (hX : WF X) (hx : X.l[I]? = some y.x) (he : y.x.ents[J]? = some e) (hw : NdW y.x) (hel : ∀ x ∈ X.l, x.ents.length ≤ 1000000000 ∧ I64 x.num) (hU : Nw wr U) :
    Calls Tryz.prog 56 #[.pointer (some ⟨fb, 0, none⟩), .agg #[.int .i64 y.x.num, .string (mk e.1)], .int .i64 e.2] U fun r w' => (∃ v, r = .returned v) ∧ BC V X fb mb I y (J + 1) nb w' := by
  obtain ⟨h1, hnode, L, h2, h3⟩ := hB
  have hs := hX.srt
  have hJ := (List.getElem?_eq_some_iff.1 he).1
  have hem : e ∈ y.x.ents := List.mem_of_getElem? he
  have hxm : y.x ∈ X.l := List.mem_of_getElem? hx
  have hkd : y.x.kind = 1 := by
    by_cases hkd : y.x.kind = 1
    · exact hkd
    · rw [(hX.kinds _ hxm).noents hkd] at hem; cases hem
  obtain ⟨hnm, hne1, z, hz, hzn⟩ := hX.es _ hxm e hem
  have hgx := hX.get hxm
  have hent : entL y.x.ents e.1 = some e.2 := entL_mem (hX.esrt _ hxm) hem
  have hdk : y.x.num ≠ e.2 := wf_noself hX hgx hent
  have hss := srt_inn hs hx J
  have hgd := get_inn hs hx J
  have hgz := hX.get hz
  rw [hzn] at hgz
  have hgk := inn_get hx J e.2
  rw [hgz] at hgk
  obtain ⟨xk, hxk, hxkk⟩ : ∃ xk, get (inn X.l I y.x J) e.2 = some xk ∧ xk.kind = z.kind := by
    cases hg : get (inn X.l I y.x J) e.2 with
    | none => rw [hg] at hgk; cases hgk
    | some xk =>
      rw [hg] at hgk
      simp only [Option.map_some, Option.some.injEq, Prod.mk.injEq] at hgk
      exact ⟨xk, rfl, hgk.2⟩
  have hfree : entL (y.x.ents.take J) e.1 = none := by
    rw [entL_none]
    intro f hf ef
    obtain ⟨j, hj, hfj⟩ := List.getElem_of_mem hf
    rw [List.length_take] at hj
    rw [List.getElem_take] at hfj
    have := List.pairwise_iff_getElem.1 (hX.esrt _ hxm) j J (by omega) hJ (by omega)
    obtain ⟨_, hyJ⟩ := List.getElem?_eq_some_iff.1 he
    rw [hfj, hyJ, ef, lt_irrefl] at this
    cases this
  have hlk := lkS_inn hx he e.2
  rw [if_pos rfl] at hlk
  have h0 : xk.kind = 1 → lkS (inn X.l I y.x J) e.2 = 0 := fun hk1 => by
    have := hX.lkd z hz (by rw [← hxkk]; exact hk1)
    rw [hzn] at this
    unfold lks at this
    omega
  have hqe := qB_enter hss (decide (0 < I)) hgd hfree hxk hdk hne1 h0
  rw [← inn_step hs hx he] at hqe
  have hqd : qB (inn X.l I y.x J) (decide (0 < I)) y.x.num = some (pB (inn X.l I y.x J) (decide (0 < I)) { y.x with ents := y.x.ents.take J }) := qB_get hgd
  have hqk : qB (inn X.l I y.x J) (decide (0 < I)) e.2 = some (pB (inn X.l I y.x J) (decide (0 < I)) xk) := qB_get hxk
  have hmd : mdF X.l (I + 1) y.x.num = true := by rw [(mdF_step hx).1 hkd]; simp
  have hlb := lks_bound (l := X.l) (B := 1000000000) (fun x hx => (hel x hx).1) e.2
  have hlen := hX.len
  have hn2 := hX.n2
  have hm1 : X.l.length * 1000000000 ≤ 4096 * 1000000000 := Nat.mul_le_mul_right _ (by omega)
  have hlinks : 0 ≤ (pB (inn X.l I y.x J) (decide (0 < I)) xk).links ∧ (pB (inn X.l I y.x J) (decide (0 < I)) xk).links ≤ 1000000000000000 := by
    have e1 : (pB (inn X.l I y.x J) (decide (0 < I)) xk).links = (lkS (inn X.l I y.x J) e.2 : Int) + 0 := by
      unfold pB
      simp only [(get_some hxk).2]
      rw [if_neg (fun h => hne1 h.1)]
    rw [e1]
    unfold lks at hlb
    constructor
    · omega
    · split at hlb <;> omega
  have hneb : (pB (inn X.l I y.x J) (decide (0 < I)) { y.x with ents := y.x.ents.take J }).ne ≤ 1000000000000000 := by
    show (y.x.ents.take J).length ≤ _
    rw [List.length_take]
    have := hw.el
    omega
  have hE := enterG_any (h2.nw hU) y.x.num e.2 hw.n64 (hw.e64 e hem) e.1 (hw.nl e hem) hqd hmd hfree hneb hqk hdk hlinks
  refine Calls.mono hE ?_
  rintro r w' ⟨hr, hF, hfr⟩
  rw [← hqe] at hF
  have t1 := tg_cells (hU.heap hnode)
  have hb1 : tg U (L y.x.num).eb = none := (h2.nw hU).teb hqd hmd
  have hb2 : tg U (L e.2).ib = some 91 := (h2.nw hU).tib hqk
  refine ⟨hr, (h1.trans hU).then hfr (fun i hi => .inr ?_), hfr.heap (hU.heap hnode) (fun e1 => ?_), L, hF, fun k hk => ?_⟩
  · rcases hi with rfl | rfl
    · exact h3 _ (.inr (.inr ⟨_, _, hqd, .inr (.inl ⟨hmd, rfl⟩)⟩))
    · exact h3 _ (.inr (.inr ⟨_, _, hqk, .inl rfl⟩))
  · rcases e1 with e1 | e1
    · rw [e1, hb1] at t1; cases t1
    · rw [e1, hb2] at t1; exact absurd t1 (by decide)
  · rcases hk with rfl | rfl | ⟨n, p, hp, hk⟩
    · exact h3 k (.inl rfl)
    · exact h3 k (.inr (.inl rfl))
    · rw [hqe] at hp
      obtain ⟨p', hp', _⟩ := entQ_some hp
      exact h3 k (.inr (.inr ⟨n, p', hp', hk⟩))
/-- The end of an inode that is not the root. -/
theorem bc_next {fb mb I J nb : Nat} {y : Nq} (hB : BC V X fb mb I y J nb W) (hX : WF X) (hx : X.l[I]? = some y.x) (hJ : J = y.x.ents.length) (h1 : y.x.num ≠ 1) : BB V X fb mb (I + 1) W := by
  obtain ⟨a1, _, L, a2, a3⟩ := hB
  have hI : I ≠ 0 := fun e => by
    subst e
    obtain ⟨r, t, el, r1, _⟩ := hX.rt
    rw [el] at hx
    simp only [List.getElem?_cons_zero, Option.some.injEq] at hx
    rw [← hx] at h1; exact h1 r1
  have e1 : decide (0 < I) = decide (0 < I + 1) := by simp; omega
  rw [inn_full hx hJ, e1] at a2 a3
  exact ⟨a1, L, a2, a3⟩
/-- The root's own name. -/
theorem bc_root {fb mb I J nb : Nat} {wr : World} {y : Nq} (hB : BC V X fb mb I y J nb wr) (hX : WF X) (hx : X.l[I]? = some y.x) (hJ : J = y.x.ents.length) (h1 : y.x.num = 1) :
    ∃ ib, (∀ U, Nw wr U → (Instr.lookup 80 (.map (some mb)) (.int .i64 1) false).run Tryz.prog U = .ok (.pointer (some ⟨ib, 0, none⟩)) U ∧ U.cell? ⟨fb, 0, none⟩ = some (.map (some mb))) ∧ (∃ u, wr.cell? ⟨ib, 9, none⟩ = some u) ∧ wr.frozen? ⟨ib, 9, none⟩ = false ∧
      ∃ W7, W7 = wr.drew.setCell ⟨ib, 9, none⟩ (.int .i64 1) ∧ (Instr.lookup 80 (.map (some mb)) (.int .i64 1) false).run Tryz.prog W7 = .ok (.pointer (some ⟨ib, 0, none⟩)) W7 ∧ W7.cell? ⟨fb, 0, none⟩ = some (.map (some mb)) ∧ (∃ u, W7.cell? ⟨ib, 10, none⟩ = some u) ∧ W7.frozen? ⟨ib, 10, none⟩ = false ∧
      ∃ W8, W8 = W7.setCell ⟨ib, 10, none⟩ (.int .i64 1) ∧ (Instr.lookup 80 (.map (some mb)) (.int .i64 1) false).run Tryz.prog W8 = .ok (.pointer (some ⟨ib, 0, none⟩)) W8 ∧ W8.cell? ⟨fb, 0, none⟩ = some (.map (some mb)) ∧ BB V X fb mb (I + 1) W8 := by
  obtain ⟨a1, _, L, a2, a3⟩ := hB
  have hxm : y.x ∈ X.l := List.mem_of_getElem? hx
  have hI : I = 0 := by
    obtain ⟨r, t, el, r1, _⟩ := hX.rt
    have hgr : X.l[0]? = some r := by rw [el]; rfl
    obtain ⟨hI1, hI2⟩ := List.getElem?_eq_some_iff.1 hx
    obtain ⟨h01, h02⟩ := List.getElem?_eq_some_iff.1 hgr
    by_cases h0 : I = 0
    · exact h0
    · have := List.pairwise_iff_getElem.1 hX.srt 0 I h01 hI1 (by omega)
      rw [h02, hI2, r1, h1] at this
      omega
  subst hI
  have hkd : y.x.kind = 1 := by
    obtain ⟨r, t, el, r1, r2⟩ := hX.rt
    have : r ∈ X.l := by rw [el]; exact List.mem_cons_self ..
    rw [hX.uniq hxm this (by rw [h1, r1])]; exact r2
  obtain ⟨xJ, hxJ⟩ : ∃ xJ : Nd, xJ = { y.x with ents := y.x.ents.take J } := ⟨_, rfl⟩
  have hg : get (inn X.l 0 y.x J) 1 = some xJ := by rw [hxJ, ← h1]; exact get_inn hX.srt hx J
  have hkJ : xJ.kind = 1 := by rw [hxJ]; exact hkd
  have hlk : lkS (inn X.l 0 y.x J) 1 = 0 := by
    rw [inn_full hx hJ]
    have h2 : lkS (cI X.l (0 + 1)) 1 ≤ lkS X.l 1 := by
      unfold cI
      rw [lkS_app, lkS_clr]
      conv => rhs; rw [← List.take_append_drop (0 + 1) X.l, lkS_app]
      omega
    have h3 := hX.lkd y.x hxm hkd
    rw [h1] at h3
    unfold lks at h3
    rw [if_pos rfl] at h3
    omega
  have hq : qB (inn X.l 0 y.x J) (decide (0 < 0)) 1 = some (pB (inn X.l 0 y.x J) false xJ) := qB_get hg
  have hqr := qB_root hg hkJ hlk
  have i1 : I64 1 := ⟨by omega, by omega⟩
  obtain ⟨dv, ev, k1, k2, k3, k4⟩ := (a2.nd 1 _ hq).blk
  have f7 : Fr (fun k => k = (L 1).ib) wr (wr.drew.setCell ⟨(L 1).ib, 9, none⟩ (.int .i64 1)) := ((Fr.refl (fun k => k = (L 1).ib) wr).drew).setCell ⟨(L 1).ib, 9, none⟩ _ (.inl rfl)
  have k7 := rset (w := wr.drew) k1 9 (.int .i64 1)
  have hT7 := a2.turnS hq (p' := { pB (inn X.l 0 y.x J) false xJ with links := 1 }) f7 (fun k e => .inl e) ((a2.nd 1 _ hq).re f7 rfl rfl rfl (fun dv ev hh => by
    have := rset (w := wr.drew) hh 9 (.int .i64 1)
    rw [this]; rfl))
  have hq7 : (fun k => if k = 1 then some { pB (inn X.l 0 y.x J) false xJ with links := 1 } else qB (inn X.l 0 y.x J) (decide (0 < 0)) k) 1 = some { pB (inn X.l 0 y.x J) false xJ with links := 1 } := by simp
  have f8 : Fr (fun k => k = (L 1).ib) (wr.drew.setCell ⟨(L 1).ib, 9, none⟩ (.int .i64 1)) ((wr.drew.setCell ⟨(L 1).ib, 9, none⟩ (.int .i64 1)).setCell ⟨(L 1).ib, 10, none⟩ (.int .i64 1)) := (Fr.refl (fun k => k = (L 1).ib) _).setCell ⟨(L 1).ib, 10, none⟩ _ (.inl rfl)
  have hT8 := hT7.turnS hq7 (p' := { pB (inn X.l 0 y.x J) false xJ with links := 1, up := 1 }) f8 (fun k e => .inl e) ((hT7.nd 1 _ hq7).re f8 rfl rfl rfl (fun dv ev hh => by
    have := rset hh 10 (.int .i64 1)
    rw [this]; rfl))
  have hqe : (fun k => if k = 1 then some { pB (inn X.l 0 y.x J) false xJ with links := 1, up := 1 } else (fun k => if k = 1 then some { pB (inn X.l 0 y.x J) false xJ with links := 1 } else qB (inn X.l 0 y.x J) (decide (0 < 0)) k) k) = qB (inn X.l 0 y.x J) true := by
    rw [hqr]
    funext k
    by_cases hk : k = 1
    · simp [hk]
    · simp [hk]
  rw [hqe] at hT8
  have hq8 : qB (inn X.l 0 y.x J) true 1 = some { pB (inn X.l 0 y.x J) false xJ with links := 1, up := 1 } := by rw [hqr]; simp
  have hib : V.heap.size ≤ (L 1).ib := a3 _ (.inr (.inr ⟨_, _, hq, .inl rfl⟩))
  refine ⟨(L 1).ib, fun U hU => ⟨(a2.nw hU).look i1 hq, (rc (a2.nw hU).blk 0 _ rfl).1⟩, ⟨_, (rc k1 9 _ rfl).1⟩, (rc k1 9 (.int .i64 _) rfl).2, _, rfl, hT7.look i1 hq7, (rc hT7.blk 0 _ rfl).1, ⟨_, (rc k7 10 _ rfl).1⟩, (rc k7 10 (.int .i64 _) rfl).2, _, rfl, hT8.look i1 hq8, (rc hT8.blk 0 _ rfl).1, (a1.then f7 (fun i hi => .inr (by omega))).then f8 (fun i hi => .inr (by omega)), L, ?_, fun k hk => ?_⟩
  · rw [← inn_full hx hJ]; exact hT8
  · rw [← inn_full hx hJ] at hk
    rcases hk with rfl | rfl | ⟨n, p, hp, hk⟩
    · exact a3 k (.inl rfl)
    · exact a3 k (.inr (.inl rfl))
    · by_cases hn : n = 1
      · rw [hn] at hk
        exact a3 k (.inr (.inr ⟨1, _, hq, hk⟩))
      · have hp2 : qB (inn X.l 0 y.x J) true n = some p := hp
        rw [hqr] at hp2
        simp only [if_neg hn] at hp2
        exact a3 k (.inr (.inr ⟨n, p, hp2, hk⟩))
/-- All is built. -/
theorem bb_fs {fb mb I : Nat} (hB : BB V X fb mb I W) (hX : WF X) (hI : I = X.l.length) : Nw V W ∧ ∃ L, FsH fb mb none L (hOf X) (qOf X.l) X.l.length [] W ∧ ∀ k, Bk fb mb none L (qOf X.l) k → V.heap.size ≤ k := by
  obtain ⟨a1, L, a2, a3⟩ := hB
  subst hI
  have hpos : 0 < X.l.length := by
    obtain ⟨r, t, el, _⟩ := hX.rt
    rw [el]; simp
  rw [cI_all X.l rfl, decide_eq_true hpos, qB_end hX] at a2 a3
  have hmd : ∀ k p, qOf X.l k = some p → (mdF X.l X.l.length k = true ↔ p.kind = 1) := fun k p hp => by
    obtain ⟨x, hg, _, _, rfl⟩ := qOf_some hp
    rw [mdF_all hX.srt hg, decide_eq_true_eq]; rfl
  refine ⟨a1, L, a2.fs hmd, fun k hk => ?_⟩
  rcases hk with rfl | rfl | hk | ⟨n, p, hp, hk⟩
  · exact a3 k (.inl rfl)
  · exact a3 k (.inr (.inl rfl))
  · cases hk
  · refine a3 k (.inr (.inr ⟨n, p, hp, ?_⟩))
    rcases hk with e | ⟨hk1, e⟩ | e
    · exact .inl e
    · exact .inr (.inl ⟨(hmd n p hp).2 hk1, e⟩)
    · exact .inr (.inr e)
end Go.Proofs.YtcogkhcfpgelhabGreat

import Derived.Test.YtcogkhcfpgelhaaGreatVaq
namespace Go.Proofs.YtcogkhcfpgelhaaGreat
open Go.RowKit
set_option linter.unusedVariables false
/-! ### Sums over an image's inodes -/
def sumF (g : Nd → Nat) (l : List Nd) : Nat := (l.map g).sum
theorem sumF_append (g : Nd → Nat) (l m : List Nd) : sumF g (l ++ m) = sumF g l + sumF g m := by
  unfold sumF
  rw [List.map_append, List.sum_append]
abbrev Srt (l : List Nd) : Prop := l.Pairwise (fun a b => a.num < b.num)
theorem updL_not (l : List Nd) (n : Int) (f : Nd → Nd) (h : ∀ x ∈ l, x.num ≠ n) : updL l n f = l := by
  unfold updL
  conv => rhs; rw [← List.map_id l]
  apply List.map_congr_left
  intro x hx
  rw [if_neg (h x hx)]; rfl
theorem dropL_not (l : List Nd) (n : Int) (h : ∀ x ∈ l, x.num ≠ n) : dropL l n = l := by
  unfold dropL
  rw [List.filter_eq_self]
  intro x hx
  simp [h x hx]
theorem sumF_updL (g : Nd → Nat) {l : List Nd} (hs : Srt l) {n : Int} {x : Nd} (hx : get l n = some x) (f : Nd → Nd) : sumF g (updL l n f) + g x = sumF g l + g (f x) := by
  induction l with
  | nil => cases hx
  | cons y r ih =>
    rw [Srt, List.pairwise_cons] at hs
    by_cases hy : y.num = n
    · have : y = x := by
        unfold get at hx
        rw [List.find?_cons, decide_eq_true hy] at hx
        injection hx
      subst this
      have hr : updL r n f = r := updL_not r n f (fun z hz e => by have := hs.1 z hz; omega)
      have e : updL (y :: r) n f = f y :: r := by
        show (if y.num = n then f y else y) :: updL r n f = _
        rw [if_pos hy, hr]
      rw [e]
      unfold sumF
      simp only [List.map_cons, List.sum_cons]
      omega
    · have hx' : get r n = some x := by
        unfold get at hx ⊢
        rw [List.find?_cons, decide_eq_false hy] at hx
        exact hx
      have := ih hs.2 hx'
      have e : updL (y :: r) n f = y :: updL r n f := by
        show (if y.num = n then f y else y) :: updL r n f = _
        rw [if_neg hy]
      rw [e]
      unfold sumF at *
      simp only [List.map_cons, List.sum_cons]
      omega
theorem sumF_dropL (g : Nd → Nat) {l : List Nd} (hs : Srt l) {n : Int} {x : Nd} (hx : get l n = some x) : sumF g (dropL l n) + g x = sumF g l := by
  induction l with
  | nil => cases hx
  | cons y r ih =>
    rw [Srt, List.pairwise_cons] at hs
    by_cases hy : y.num = n
    · have : y = x := by
        unfold get at hx
        rw [List.find?_cons, decide_eq_true hy] at hx
        injection hx
      subst this
      have hr : dropL r n = r := dropL_not r n (fun z hz e => by have := hs.1 z hz; omega)
      have e : dropL (y :: r) n = r := by
        unfold dropL at hr ⊢
        rw [List.filter_cons, decide_eq_true hy]
        exact hr
      rw [e]
      unfold sumF
      simp only [List.map_cons, List.sum_cons]
      omega
    · have hx' : get r n = some x := by
        unfold get at hx ⊢
        rw [List.find?_cons, decide_eq_false hy] at hx
        exact hx
      have := ih hs.2 hx'
      have e : dropL (y :: r) n = y :: dropL r n := by
        unfold dropL
        rw [List.filter_cons, decide_eq_false hy]; rfl
      rw [e]
      unfold sumF at *
      simp only [List.map_cons, List.sum_cons]
      omega
theorem lkS_sum (l : List Nd) (n : Int) : lkS l n = sumF (fun x => nameN x.ents n) l := rfl
theorem heldF_sum (l : List Nd) : heldF l = sumF (fun x => x.data.length) l := rfl
theorem len_sum (l : List Nd) : l.length = sumF (fun _ => 1) l := by
  unfold sumF
  induction l with
  | nil => rfl
  | cons x r ih => simp only [List.length_cons, List.map_cons, List.sum_cons]; omega
theorem sumF_mem (g : Nd → Nat) {l : List Nd} {x : Nd} (hx : x ∈ l) : g x ≤ sumF g l := by
  induction l with
  | nil => cases hx
  | cons y r ih =>
    unfold sumF at *
    simp only [List.map_cons, List.sum_cons]
    rcases List.mem_cons.1 hx with rfl | hx
    · omega
    · have := ih hx; omega
theorem sumF_pos {g : Nd → Nat} {l : List Nd} (h : 0 < sumF g l) : ∃ x ∈ l, 0 < g x := by
  induction l with
  | nil => simp [sumF] at h
  | cons y r ih =>
    by_cases hy : 0 < g y
    · exact ⟨y, List.mem_cons_self .., hy⟩
    · unfold sumF at h ih
      simp only [List.map_cons, List.sum_cons] at h
      obtain ⟨x, hx, hg⟩ := ih (by omega)
      exact ⟨x, List.mem_cons_of_mem _ hx, hg⟩
theorem sumF_two {g : Nd → Nat} {l : List Nd} (hs : Srt l) {x y : Nd} (hx : x ∈ l) (hy : y ∈ l) (hne : x.num ≠ y.num) : g x + g y ≤ sumF g l := by
  have h1 := sumF_dropL g hs (get_mem hs hx)
  have h2 : y ∈ dropL l x.num := by
    unfold dropL
    rw [List.mem_filter]
    exact ⟨hy, by simp [Ne.symm hne]⟩
  have := sumF_mem g h2
  omega
theorem nameN_pos {es : List (Tx × Int)} {n : Int} : 0 < nameN es n ↔ ∃ e ∈ es, e.2 = n := by
  unfold nameN
  rw [List.length_pos_iff_exists_mem]
  constructor
  · rintro ⟨e, he⟩
    rw [List.mem_filter] at he
    exact ⟨e, he.1, by simpa using he.2⟩
  · rintro ⟨e, he, hn⟩
    exact ⟨e, by rw [List.mem_filter]; exact ⟨he, by simpa using hn⟩⟩
theorem nameN_nil (n : Int) : nameN [] n = 0 := rfl
/-! ### Order -/
theorem srt_updL {l : List Nd} (hs : Srt l) (n : Int) {f : Nd → Nd} (hf : ∀ x, (f x).num = x.num) : Srt (updL l n f) := by
  unfold updL
  rw [Srt, List.pairwise_map]
  refine hs.imp ?_
  intro a b hab
  have e : ∀ x : Nd, (if x.num = n then f x else x).num = x.num := fun x => by split <;> simp [hf]
  rw [e, e]; exact hab
theorem srt_dropL {l : List Nd} (hs : Srt l) (n : Int) : Srt (dropL l n) := hs.filter _
theorem mem_updL {l : List Nd} {n : Int} {f : Nd → Nd} {y : Nd} (h : y ∈ updL l n f) : ∃ x ∈ l, (x.num = n ∧ y = f x) ∨ (x.num ≠ n ∧ y = x) := by
  unfold updL at h
  rw [List.mem_map] at h
  obtain ⟨x, hx, rfl⟩ := h
  refine ⟨x, hx, ?_⟩
  by_cases hn : x.num = n
  · exact .inl ⟨hn, by rw [if_pos hn]⟩
  · exact .inr ⟨hn, by rw [if_neg hn]⟩
theorem updL_mem {l : List Nd} {n : Int} {f : Nd → Nd} {x : Nd} (h : x ∈ l) : (if x.num = n then f x else x) ∈ updL l n f := List.mem_map.2 ⟨x, h, rfl⟩
theorem mem_dropL {l : List Nd} {n : Int} {y : Nd} : y ∈ dropL l n ↔ y ∈ l ∧ y.num ≠ n := by
  unfold dropL
  rw [List.mem_filter]
  simp
theorem len_updL (l : List Nd) (n : Int) (f : Nd → Nd) : (updL l n f).length = l.length := by simp [updL]
theorem get_num {l : List Nd} {k : Int} {x : Nd} (h : get l k = some x) : x.num = k := (get_some h).2
/-! ### Whose entry names a directory -/
def nmsB (x : Nd) (n : Int) : Bool := x.ents.any (fun e => decide (e.2 = n))
theorem nmsB_iff {x : Nd} {n : Int} : nmsB x n = true ↔ 0 < nameN x.ents n := by
  rw [nameN_pos]
  unfold nmsB
  rw [List.any_eq_true]
  constructor
  · rintro ⟨e, he, h⟩; exact ⟨e, he, by simpa using h⟩
  · rintro ⟨e, he, h⟩; exact ⟨e, he, by simpa using h⟩
theorem upF_def (l : List Nd) (n : Int) : upF l n = ((l.find? (nmsB · n)).map (·.num)).getD 1 := rfl
theorem upF_of {l : List Nd} {n d : Int} (h1 : ∃ x ∈ l, nmsB x n = true) (h2 : ∀ x ∈ l, nmsB x n = true → x.num = d) : upF l n = d := by
  rw [upF_def]
  cases hf : l.find? (nmsB · n) with
  | none =>
    obtain ⟨x, hx, hn⟩ := h1
    rw [List.find?_eq_none] at hf
    exact absurd hn (hf x hx)
  | some x => exact h2 x (List.mem_of_find?_eq_some hf) (List.find?_some (p := (nmsB · n)) hf)
theorem upF_none {l : List Nd} {n : Int} (h : ∀ x ∈ l, nmsB x n = false) : upF l n = 1 := by
  rw [upF_def]
  have : l.find? (nmsB · n) = none := by
    rw [List.find?_eq_none]
    intro x hx; rw [h x hx]; simp
  rw [this]; rfl
theorem upF_updL {l : List Nd} {k n : Int} {f : Nd → Nd} (hf : ∀ x, (f x).num = x.num) (h : ∀ x ∈ l, x.num = k → nmsB (f x) n = nmsB x n) : upF (updL l k f) n = upF l n := by
  rw [upF_def, upF_def]
  induction l with
  | nil => rfl
  | cons x r ih =>
    have ih := ih (fun y hy => h y (List.mem_cons_of_mem _ hy))
    have e : updL (x :: r) k f = (if x.num = k then f x else x) :: updL r k f := rfl
    rw [e, List.find?_cons, List.find?_cons]
    by_cases hx : x.num = k
    · rw [if_pos hx, h x (List.mem_cons_self ..) hx]
      cases nmsB x n with
      | true => simp [hf]
      | false => exact ih
    · rw [if_neg hx]
      cases nmsB x n with
      | true => rfl
      | false => exact ih
theorem upF_append {l : List Nd} {y : Nd} {n : Int} (h : nmsB y n = false) : upF (l ++ [y]) n = upF l n := by
  rw [upF_def, upF_def, List.find?_append]
  cases l.find? (nmsB · n) with
  | none => simp [h]
  | some x => rfl
theorem upF_dropL {l : List Nd} {k n : Int} (h : ∀ x ∈ l, x.num = k → nmsB x n = false) : upF (dropL l k) n = upF l n := by
  rw [upF_def, upF_def]
  induction l with
  | nil => rfl
  | cons x r ih =>
    have ih := ih (fun y hy => h y (List.mem_cons_of_mem _ hy))
    by_cases hx : x.num = k
    · have e : dropL (x :: r) k = dropL r k := by
        unfold dropL
        rw [List.filter_cons, decide_eq_true hx]; rfl
      rw [e, List.find?_cons, h x (List.mem_cons_self ..) hx]
      exact ih
    · have e : dropL (x :: r) k = x :: dropL r k := by
        unfold dropL
        rw [List.filter_cons, decide_eq_false hx]; rfl
      rw [e, List.find?_cons, List.find?_cons]
      cases nmsB x n with
      | true => rfl
      | false => exact ih
/-! ### An image's inodes as the program has them -/
def pnOf (l : List Nd) (x : Nd) : Pn := ⟨x.kind, x.mt, x.data, x.tgt, entL x.ents, x.ents.length, (lks l x.num : Int), if x.kind = 1 then upF l x.num else 0⟩
def qOf (l : List Nd) (k : Int) : Option Pn := (get l k).map (pnOf l)
def hOf (X : Im) : Hx := ⟨X.nodes, X.bytes, heldF X.l, X.next⟩
theorem qOf_some {l : List Nd} {k : Int} {p : Pn} (h : qOf l k = some p) : ∃ x, get l k = some x ∧ x ∈ l ∧ x.num = k ∧ p = pnOf l x := by
  unfold qOf at h
  cases hg : get l k with
  | none => rw [hg] at h; cases h
  | some x =>
    rw [hg] at h
    injection h with h
    exact ⟨x, rfl, (get_some hg).1, (get_some hg).2, h.symm⟩
theorem qOf_none {l : List Nd} {k : Int} (h : qOf l k = none) : get l k = none := by
  unfold qOf at h
  cases hg : get l k with
  | none => rfl
  | some x => rw [hg] at h; cases h
theorem qOf_get {l : List Nd} {k : Int} {x : Nd} (h : get l k = some x) : qOf l k = some (pnOf l x) := by unfold qOf; rw [h]; rfl
/-- An entry put into a directory. -/
def putE (l : List Nd) (d : Int) (s : Tx) (n : Int) : List Nd := updL l d (fun x => { x with ents := insE s n x.ents })
/-- An entry taken away. -/
def rmvE (l : List Nd) (d : Int) (s : Tx) : List Nd := updL l d (fun x => { x with ents := delE s x.ents })
/-- And the inode with the last one. -/
def leaL (l : List Nd) (d : Int) (s : Tx) (n : Int) : List Nd := if lks (rmvE l d s) n = 0 then dropL (rmvE l d s) n else rmvE l d s
theorem lkS_putE {l : List Nd} (hs : Srt l) {d n : Int} {x : Nd} (hd : get l d = some x) (s : Tx) (k : Int) : lkS (putE l d s n) k = lkS l k + if n = k then 1 else 0 := by
  have := sumF_updL (fun x => nameN x.ents k) hs hd (fun x => { x with ents := insE s n x.ents })
  simp only [nameN_insE] at this
  rw [lkS_sum, lkS_sum]
  unfold putE
  omega
theorem lks_putE {l : List Nd} (hs : Srt l) {d n : Int} {x : Nd} (hd : get l d = some x) (s : Tx) (k : Int) : lks (putE l d s n) k = lks l k + if n = k then 1 else 0 := by
  unfold lks
  rw [lkS_putE hs hd]; omega
theorem lkS_rmvE {l : List Nd} (hs : Srt l) {d n : Int} {x : Nd} (hd : get l d = some x) (hx : x.ents.Pairwise (fun a b => lt a.1 b.1 = true)) {s : Tx} (he : entL x.ents s = some n) (k : Int) : lkS (rmvE l d s) k + (if n = k then 1 else 0) = lkS l k := by
  have := sumF_updL (fun x => nameN x.ents k) hs hd (fun x => { x with ents := delE s x.ents })
  have h2 := nameN_delE hx s k
  rw [he] at h2
  simp only [Option.some.injEq] at h2
  rw [lkS_sum, lkS_sum]
  unfold rmvE
  simp only at this
  omega
theorem lks_rmvE {l : List Nd} (hs : Srt l) {d n : Int} {x : Nd} (hd : get l d = some x) (hx : x.ents.Pairwise (fun a b => lt a.1 b.1 = true)) {s : Tx} (he : entL x.ents s = some n) (k : Int) : lks (rmvE l d s) k + (if n = k then 1 else 0) = lks l k := by
  unfold lks
  have := lkS_rmvE hs hd hx he k
  omega
theorem get_putE (l : List Nd) (d : Int) (s : Tx) (n k : Int) : get (putE l d s n) k = if k = d then (get l k).map (fun x => { x with ents := insE s n x.ents }) else get l k := get_updL l d k _ (fun _ => rfl)
theorem get_rmvE (l : List Nd) (d : Int) (s : Tx) (k : Int) : get (rmvE l d s) k = if k = d then (get l k).map (fun x => { x with ents := delE s x.ents }) else get l k := get_updL l d k _ (fun _ => rfl)
theorem nmsB_insE (x : Nd) (s : Tx) {n k : Int} (h : n ≠ k) : nmsB { x with ents := insE s n x.ents } k = nmsB x k := by
  rw [Bool.eq_iff_iff, nmsB_iff, nmsB_iff]
  simp only [nameN_insE]
  rw [if_neg h]; simp
theorem nmsB_delE {x : Nd} (hx : x.ents.Pairwise (fun a b => lt a.1 b.1 = true)) {s : Tx} {n k : Int} (he : entL x.ents s = some n) (h : n ≠ k) : nmsB { x with ents := delE s x.ents } k = nmsB x k := by
  rw [Bool.eq_iff_iff, nmsB_iff, nmsB_iff]
  have h2 := nameN_delE hx s k
  rw [he] at h2
  simp only [Option.some.injEq] at h2
  rw [if_neg h] at h2
  simp only
  omega
end Go.Proofs.YtcogkhcfpgelhaaGreat

namespace Go.Proofs.YtcogkhcfpgelhaaGreat
open Go.RowKit
set_option linter.unusedVariables false
/-! ### Well formed but for one inode's names -/
structure WFx (X : Im) (n : Int) : Prop where
  n1 : 1 ≤ X.nodes
  n2 : X.nodes ≤ 4096
  b1 : 0 ≤ X.bytes
  b2 : X.bytes ≤ 4194304
  x1 : 2 ≤ X.next
  x2 : X.next ≤ 1099511627776
  srt : X.l.Pairwise (fun a b => a.num < b.num)
  rt : ∃ r t, X.l = r :: t ∧ r.num = 1 ∧ r.kind = 1
  nums : ∀ x ∈ X.l, 1 ≤ x.num ∧ x.num < X.next
  len : (X.l.length : Int) ≤ X.nodes
  kinds : ∀ x ∈ X.l, NdOk x
  held : (heldF X.l : Int) ≤ X.bytes
  es : ∀ x ∈ X.l, ∀ e ∈ x.ents, nmOk e.1 = true ∧ e.2 ≠ 1 ∧ ∃ y ∈ X.l, y.num = e.2
  esrt : ∀ x ∈ X.l, x.ents.Pairwise (fun a b => lt a.1 b.1 = true)
  lk1 : ∀ x ∈ X.l, x.num ≠ n → 1 ≤ lks X.l x.num
  lkd : ∀ x ∈ X.l, x.num ≠ n → x.kind = 1 → lks X.l x.num = 1
  rk : ∃ rk : Int → Nat, ∀ x ∈ X.l, ∀ e ∈ x.ents, ∀ y ∈ X.l, y.num = e.2 → y.kind = 1 → rk x.num < rk y.num
theorem WF.x {X : Im} (h : WF X) (n : Int) : WFx X n := ⟨h.n1, h.n2, h.b1, h.b2, h.x1, h.x2, h.srt, h.rt, h.nums, h.len, h.kinds, h.held, h.es, h.esrt, fun x hx _ => h.lk1 x hx, fun x hx _ => h.lkd x hx, h.rk⟩
theorem wfx_full {X : Im} {n : Int} (h : WFx X n) {xn : Nd} (hn : get X.l n = some xn) (h1 : 1 ≤ lks X.l n) (h2 : xn.kind = 1 → lks X.l n = 1) : WF X := by
  refine ⟨h.n1, h.n2, h.b1, h.b2, h.x1, h.x2, h.srt, h.rt, h.nums, h.len, h.kinds, h.held, h.es, h.esrt, fun x hx => ?_, fun x hx hk => ?_, h.rk⟩
  · by_cases hxn : x.num = n
    · rw [hxn]; exact h1
    · exact h.lk1 x hx hxn
  · by_cases hxn : x.num = n
    · have := get_mem h.srt hx
      rw [hxn, hn] at this
      injection this with this
      rw [hxn]; exact h2 (by rw [this]; exact hk)
    · exact h.lkd x hx hxn hk
/-! ### What lies in a directory -/
def Ch (l : List Nd) (a b : Int) : Prop := ∃ x ∈ l, x.num = a ∧ nmsB x b = true ∧ ∃ y ∈ l, y.num = b ∧ y.kind = 1
inductive Sub (l : List Nd) (n : Int) : Int → Prop
  | refl : Sub l n n
  | step {a b : Int} : Sub l n a → Ch l a b → Sub l n b
theorem Sub.mono {l l' : List Nd} {n k : Int} (h : Sub l n k) (hc : ∀ a b, Ch l a b → Ch l' a b) : Sub l' n k := by
  induction h with
  | refl => exact .refl
  | step _ hab ih => exact ih.step (hc _ _ hab)
theorem Sub.leaf {l : List Nd} {n k : Int} (h : Sub l n k) (hn : ∀ x ∈ l, x.num = n → x.ents = []) : k = n := by
  induction h with
  | refl => rfl
  | step _ hab ih =>
    obtain ⟨x, hx, hxa, hb, _⟩ := hab
    rw [ih] at hxa
    unfold nmsB at hb
    rw [hn x hx hxa] at hb
    cases hb
/-! ### An entry more -/
theorem mem_putE {l : List Nd} {d n : Int} {s : Tx} {y : Nd} (h : y ∈ putE l d s n) : ∃ x ∈ l, x.num = y.num ∧ x.kind = y.kind ∧ x.mt = y.mt ∧ x.data = y.data ∧ x.tgt = y.tgt ∧ ((x.num = d ∧ y.ents = insE s n x.ents) ∨ (x.num ≠ d ∧ y = x)) := by
  obtain ⟨x, hx, h | h⟩ := mem_updL h
  · refine ⟨x, hx, ?_⟩
    obtain ⟨h1, rfl⟩ := h
    exact ⟨rfl, rfl, rfl, rfl, rfl, .inl ⟨h1, rfl⟩⟩
  · obtain ⟨h1, rfl⟩ := h
    exact ⟨y, hx, rfl, rfl, rfl, rfl, rfl, .inr ⟨h1, rfl⟩⟩
theorem putE_has {l : List Nd} {d n : Int} {s : Tx} {x : Nd} (h : x ∈ l) : ∃ y ∈ putE l d s n, y.num = x.num ∧ y.kind = x.kind := by
  refine ⟨_, updL_mem h, ?_⟩
  split <;> exact ⟨rfl, rfl⟩
theorem ndok_congr {x y : Nd} (hx : NdOk x) (h1 : x.kind = y.kind) (h2 : x.mt = y.mt) (h3 : x.data = y.data) (h4 : x.tgt = y.tgt) (h5 : y.kind ≠ 1 → y.ents = []) : NdOk y := by
  obtain ⟨m, h⟩ := hx
  rw [h2] at m
  rw [h1, h3, h4] at h
  refine ⟨m, ?_⟩
  rcases h with ⟨a, b, c⟩ | ⟨a, b, c, _⟩ | ⟨a, b, c, _⟩
  · exact .inl ⟨a, b, c⟩
  · exact .inr (.inl ⟨a, b, c, h5 (by rw [a]; decide)⟩)
  · exact .inr (.inr ⟨a, b, c, h5 (by rw [a]; decide)⟩)
theorem NdOk.noents {x : Nd} (h : NdOk x) (hk : x.kind ≠ 1) : x.ents = [] := by
  obtain ⟨_, h⟩ := h
  rcases h with ⟨a, _⟩ | ⟨_, _, _, a⟩ | ⟨_, _, _, a⟩
  · exact absurd a hk
  · exact a
  · exact a
theorem NdOk.nodata {x : Nd} (h : NdOk x) (hk : x.kind ≠ 2) : x.data = [] := by
  obtain ⟨_, h⟩ := h
  rcases h with ⟨_, a, _⟩ | ⟨a, _⟩ | ⟨_, a, _⟩
  · exact a
  · exact absurd a hk
  · exact a
theorem NdOk.len {x : Nd} (h : NdOk x) : x.data.length ≤ 4194304 := by
  obtain ⟨_, h⟩ := h
  rcases h with ⟨_, a, _⟩ | ⟨_, a, _⟩ | ⟨_, a, _⟩
  · rw [a]; simp
  · exact a
  · rw [a]; simp
theorem NdOk.tlen {x : Nd} (h : NdOk x) : x.tgt.length ≤ 4096 := by
  obtain ⟨_, h⟩ := h
  rcases h with ⟨_, _, a⟩ | ⟨_, _, a, _⟩ | ⟨_, _, a, _⟩
  · rw [a]; simp
  · rw [a]; simp
  · unfold tgOk at a
    simp only [Bool.and_eq_true, decide_eq_true_eq] at a
    exact a.1.2
theorem root_upd {l : List Nd} (h : ∃ r t, l = r :: t ∧ r.num = 1 ∧ r.kind = 1) (n : Int) {f : Nd → Nd} (hf : ∀ x, (f x).num = x.num ∧ (f x).kind = x.kind) : ∃ r t, updL l n f = r :: t ∧ r.num = 1 ∧ r.kind = 1 := by
  obtain ⟨r, t, rfl, h1, h2⟩ := h
  refine ⟨if r.num = n then f r else r, updL t n f, rfl, ?_, ?_⟩
  · split
    · rw [(hf r).1]; exact h1
    · exact h1
  · split
    · rw [(hf r).2]; exact h2
    · exact h2
theorem held_updL {l : List Nd} (n : Int) {f : Nd → Nd} (hf : ∀ x, (f x).data = x.data) : heldF (updL l n f) = heldF l := by
  unfold heldF updL
  rw [List.map_map]
  congr 1
  apply List.map_congr_left
  intro x _
  simp only [Function.comp]
  split
  · rw [hf]
  · rfl
open Classical in
theorem wfx_put {X : Im} {n : Int} (h : WFx X n) {d : Int} {s : Tx} {xd xn : Nd} (hd : get X.l d = some xd) (hk : xd.kind = 1) (hs : nmOk s = true) (he : entL xd.ents s = none) (hn : get X.l n = some xn) (h1 : n ≠ 1) (hdir : xn.kind = 1 → lks X.l n = 0) (hsub : xn.kind = 1 → ¬ Sub X.l n d) : WF { X with l := putE X.l d s n } := by
  obtain ⟨xdm, xdn⟩ := get_some hd
  obtain ⟨xnm, xnn⟩ := get_some hn
  have lk := fun k => lks_putE h.srt (n := n) hd s k
  have uniq : ∀ x ∈ X.l, ∀ y ∈ X.l, x.num = y.num → x = y := fun x hx y hy e => by
    have a := get_mem h.srt hx
    have b := get_mem h.srt hy
    rw [e, b] at a
    injection a with a
    exact a.symm
  refine ⟨h.n1, h.n2, h.b1, h.b2, h.x1, h.x2, srt_updL h.srt d (fun _ => rfl), root_upd h.rt d (fun _ => ⟨rfl, rfl⟩), fun y hy => ?_, ?_, fun y hy => ?_, ?_, fun y hy e hee => ?_, fun y hy => ?_, fun y hy => ?_, fun y hy hyk => ?_, ?_⟩
  · obtain ⟨x, hx, e1, _⟩ := mem_putE hy
    rw [← e1]; exact h.nums x hx
  · show ((putE X.l d s n).length : Int) ≤ _
    unfold putE
    rw [len_updL]; exact h.len
  · obtain ⟨x, hx, e1, e2, e3, e4, e5, e6⟩ := mem_putE hy
    refine ndok_congr (h.kinds x hx) e2 e3 e4 e5 (fun hne => ?_)
    rcases e6 with ⟨e6, e7⟩ | ⟨e6, rfl⟩
    · have : x = xd := uniq x hx xd xdm (by rw [e6, xdn])
      rw [← e2, this] at hne
      exact absurd hk hne
    · exact (h.kinds y hx).noents hne
  · show (heldF (putE X.l d s n) : Int) ≤ _
    have e : heldF (putE X.l d s n) = heldF X.l := held_updL d (f := fun x => { x with ents := insE s n x.ents }) (fun _ => rfl)
    rw [e]; exact h.held
  · obtain ⟨x, hx, e1, e2, e3, e4, e5, e6⟩ := mem_putE hy
    have hold : e ∈ x.ents → nmOk e.1 = true ∧ e.2 ≠ 1 ∧ ∃ y ∈ putE X.l d s n, y.num = e.2 := fun hxe => by
      obtain ⟨a, b, z, hz, hzn⟩ := h.es x hx e hxe
      obtain ⟨z', hz', hzn', _⟩ := putE_has (d := d) (n := n) (s := s) hz
      exact ⟨a, b, z', hz', by rw [hzn', hzn]⟩
    rcases e6 with ⟨e6, e7⟩ | ⟨e6, rfl⟩
    · rw [e7] at hee
      rcases mem_insE.1 hee with rfl | hee
      · obtain ⟨z', hz', hzn', _⟩ := putE_has (d := d) (n := n) (s := s) xnm
        exact ⟨hs, h1, z', hz', by rw [hzn', xnn]⟩
      · exact hold hee
    · exact hold hee
  · obtain ⟨x, hx, e1, e2, e3, e4, e5, e6⟩ := mem_putE hy
    rcases e6 with ⟨e6, e7⟩ | ⟨e6, rfl⟩
    · have : x = xd := uniq x hx xd xdm (by rw [e6, xdn])
      rw [e7]
      exact insE_sorted (h.esrt x hx) (by rw [this]; exact he) n
    · exact h.esrt y hx
  · obtain ⟨x, hx, e1, _⟩ := mem_putE hy
    show 1 ≤ lks (putE X.l d s n) y.num
    rw [lk, ← e1]
    by_cases hxn : n = x.num
    · rw [if_pos hxn]; omega
    · have := h.lk1 x hx (fun e => hxn e.symm); omega
  · obtain ⟨x, hx, e1, e2, _⟩ := mem_putE hy
    show lks (putE X.l d s n) y.num = 1
    rw [lk, ← e1]
    by_cases hxn : n = x.num
    · have hxx : x = xn := uniq x hx xn xnm (by rw [xnn, ← hxn])
      have := hdir (by rw [← hxx, e2]; exact hyk)
      rw [if_pos hxn, ← hxn, this]
    · have := h.lkd x hx (fun e => hxn e.symm) (by rw [e2]; exact hyk)
      rw [if_neg hxn, this]
  · obtain ⟨rk, hrk⟩ := h.rk
    by_cases hnk : xn.kind = 1
    · have hns := hsub hnk
      refine ⟨fun k => if Sub X.l n k then rk k + rk d + 1 else rk k, fun y hy e hee z hz hze hzk => ?_⟩
      obtain ⟨x, hx, e1, e2, e3, e4, e5, e6⟩ := mem_putE hy
      obtain ⟨zo, hzo, f1, f2, _⟩ := mem_putE hz
      have hold : e ∈ x.ents → (if Sub X.l n y.num then rk y.num + rk d + 1 else rk y.num) < (if Sub X.l n z.num then rk z.num + rk d + 1 else rk z.num) := fun hxe => by
        have hr := hrk x hx e hxe zo hzo (by rw [f1, hze]) (by rw [f2, hzk])
        rw [e1, f1] at hr
        have hch : Ch X.l y.num z.num := ⟨x, hx, e1, by rw [nmsB_iff, nameN_pos]; exact ⟨e, hxe, hze.symm⟩, zo, hzo, f1, by rw [f2, hzk]⟩
        by_cases hsy : Sub X.l n y.num
        · have hsz : Sub X.l n z.num := hsy.step hch
          rw [if_pos hsy, if_pos hsz]; omega
        · rw [if_neg hsy]
          split <;> omega
      rcases e6 with ⟨e6, e7⟩ | ⟨e6, rfl⟩
      · rw [e7] at hee
        rcases mem_insE.1 hee with rfl | hee
        · have hyd : y.num = d := by rw [← e1, e6]
          have hzn : z.num = n := hze
          simp only [hyd, hzn]
          rw [if_neg hns, if_pos (Sub.refl)]; omega
        · exact hold hee
      · exact hold hee
    · refine ⟨rk, fun y hy e hee z hz hze hzk => ?_⟩
      obtain ⟨x, hx, e1, e2, e3, e4, e5, e6⟩ := mem_putE hy
      obtain ⟨zo, hzo, f1, f2, _⟩ := mem_putE hz
      have hold : e ∈ x.ents → rk y.num < rk z.num := fun hxe => by
        have hr := hrk x hx e hxe zo hzo (by rw [f1, hze]) (by rw [f2, hzk])
        rw [e1, f1] at hr; exact hr
      rcases e6 with ⟨e6, e7⟩ | ⟨e6, rfl⟩
      · rw [e7] at hee
        rcases mem_insE.1 hee with rfl | hee
        · have : zo = xn := uniq zo hzo xn xnm (by rw [f1, hze, xnn])
          rw [this] at f2
          exact absurd (f2.trans hzk) hnk
        · exact hold hee
      · exact hold hee
/-! ### An entry less -/
theorem mem_rmvE {l : List Nd} {d : Int} {s : Tx} {y : Nd} (h : y ∈ rmvE l d s) : ∃ x ∈ l, x.num = y.num ∧ x.kind = y.kind ∧ x.mt = y.mt ∧ x.data = y.data ∧ x.tgt = y.tgt ∧ (∀ e ∈ y.ents, e ∈ x.ents) ∧ ((x.num = d ∧ y.ents = delE s x.ents) ∨ (x.num ≠ d ∧ y = x)) := by
  obtain ⟨x, hx, h | h⟩ := mem_updL h
  · refine ⟨x, hx, ?_⟩
    obtain ⟨h1, rfl⟩ := h
    exact ⟨rfl, rfl, rfl, rfl, rfl, fun e he => (mem_delE he).1, .inl ⟨h1, rfl⟩⟩
  · obtain ⟨h1, rfl⟩ := h
    exact ⟨y, hx, rfl, rfl, rfl, rfl, rfl, fun e he => he, .inr ⟨h1, rfl⟩⟩
theorem rmvE_has {l : List Nd} {d : Int} {s : Tx} {x : Nd} (h : x ∈ l) : ∃ y ∈ rmvE l d s, y.num = x.num ∧ y.kind = x.kind := by
  refine ⟨_, updL_mem h, ?_⟩
  split <;> exact ⟨rfl, rfl⟩
theorem wf_rmv {X : Im} (h : WF X) {d n : Int} {s : Tx} {xd : Nd} (hd : get X.l d = some xd) (he : entL xd.ents s = some n) : WFx { X with l := rmvE X.l d s } n := by
  obtain ⟨xdm, xdn⟩ := get_some hd
  have lk := fun k => lks_rmvE h.srt hd (h.esrt xd xdm) he k
  refine ⟨h.n1, h.n2, h.b1, h.b2, h.x1, h.x2, srt_updL h.srt d (fun _ => rfl), root_upd h.rt d (fun _ => ⟨rfl, rfl⟩), fun y hy => ?_, ?_, fun y hy => ?_, ?_, fun y hy e hee => ?_, fun y hy => ?_, fun y hy hyn => ?_, fun y hy hyn hyk => ?_, ?_⟩
  · obtain ⟨x, hx, e1, _⟩ := mem_rmvE hy
    rw [← e1]; exact h.nums x hx
  · show ((rmvE X.l d s).length : Int) ≤ _
    unfold rmvE
    rw [len_updL]; exact h.len
  · obtain ⟨x, hx, e1, e2, e3, e4, e5, e6, _⟩ := mem_rmvE hy
    refine ndok_congr (h.kinds x hx) e2 e3 e4 e5 (fun hne => ?_)
    have := (h.kinds x hx).noents (by rw [e2]; exact hne)
    rw [List.eq_nil_iff_forall_not_mem]
    intro e hee
    have := e6 e hee
    rw [(h.kinds x hx).noents (by rw [e2]; exact hne)] at this
    cases this
  · show (heldF (rmvE X.l d s) : Int) ≤ _
    have e : heldF (rmvE X.l d s) = heldF X.l := held_updL d (f := fun x => { x with ents := delE s x.ents }) (fun _ => rfl)
    rw [e]; exact h.held
  · obtain ⟨x, hx, e1, e2, e3, e4, e5, e6, _⟩ := mem_rmvE hy
    obtain ⟨a, b, z, hz, hzn⟩ := h.es x hx e (e6 e hee)
    obtain ⟨z', hz', hzn', _⟩ := rmvE_has (d := d) (s := s) hz
    exact ⟨a, b, z', hz', by rw [hzn', hzn]⟩
  · obtain ⟨x, hx, e1, e2, e3, e4, e5, _, e6⟩ := mem_rmvE hy
    rcases e6 with ⟨e6, e7⟩ | ⟨e6, rfl⟩
    · rw [e7]; exact delE_sorted (h.esrt x hx) s
    · exact h.esrt y hx
  · obtain ⟨x, hx, e1, _⟩ := mem_rmvE hy
    have := lk y.num
    rw [if_neg (fun e => hyn e.symm)] at this
    have h2 := h.lk1 x hx
    rw [e1] at h2
    show 1 ≤ lks (rmvE X.l d s) y.num
    omega
  · obtain ⟨x, hx, e1, e2, _⟩ := mem_rmvE hy
    have := lk y.num
    rw [if_neg (fun e => hyn e.symm)] at this
    have h2 := h.lkd x hx (by rw [e2]; exact hyk)
    rw [e1] at h2
    show lks (rmvE X.l d s) y.num = 1
    omega
  · obtain ⟨rk, hrk⟩ := h.rk
    refine ⟨rk, fun y hy e hee z hz hze hzk => ?_⟩
    obtain ⟨x, hx, e1, e2, e3, e4, e5, e6, _⟩ := mem_rmvE hy
    obtain ⟨zo, hzo, f1, f2, _⟩ := mem_rmvE hz
    have hr := hrk x hx e (e6 e hee) zo hzo (by rw [f1, hze]) (by rw [f2, hzk])
    rw [e1, f1] at hr; exact hr
theorem lkS_dropL {l : List Nd} (hs : Srt l) {n : Int} {x : Nd} (hn : get l n = some x) (hx : x.ents = []) (k : Int) : lks (dropL l n) k = lks l k := by
  have := sumF_dropL (fun x => nameN x.ents k) hs hn
  simp only [hx, nameN_nil] at this
  unfold lks
  rw [lkS_sum, lkS_sum]
  omega
theorem wfx_drop {X : Im} {n : Int} (h : WFx X n) {xn : Nd} (hn : get X.l n = some xn) (h1 : n ≠ 1) (h0 : lks X.l n = 0) (hx : xn.ents = []) : WF { X with l := dropL X.l n } := by
  obtain ⟨xnm, xnn⟩ := get_some hn
  have lk := fun k => lkS_dropL h.srt hn hx k
  have hsub : ∀ y ∈ dropL X.l n, y ∈ X.l ∧ y.num ≠ n := fun y hy => mem_dropL.1 hy
  have hz : ∀ x ∈ X.l, ∀ e ∈ x.ents, e.2 ≠ n := fun x hxm e hee he => by
    have h2 : 0 < nameN x.ents n := nameN_pos.2 ⟨e, hee, he⟩
    have h3 := sumF_mem (fun x => nameN x.ents n) hxm
    unfold lks at h0
    rw [lkS_sum] at h0
    omega
  refine ⟨h.n1, h.n2, h.b1, h.b2, h.x1, h.x2, srt_dropL h.srt n, ?_, fun y hy => h.nums y (hsub y hy).1, ?_, fun y hy => h.kinds y (hsub y hy).1, ?_, fun y hy e hee => ?_, fun y hy => h.esrt y (hsub y hy).1, fun y hy => ?_, fun y hy hyk => ?_, ?_⟩
  · obtain ⟨r, t, e, r1, r2⟩ := h.rt
    refine ⟨r, dropL t n, ?_, r1, r2⟩
    show dropL X.l n = _
    rw [e]
    unfold dropL
    rw [List.filter_cons, decide_eq_false (by rw [r1]; exact fun e => h1 e.symm)]; rfl
  · have := h.len
    have h2 : (dropL X.l n).length ≤ X.l.length := List.length_filter_le _ _
    show ((dropL X.l n).length : Int) ≤ X.nodes
    omega
  · have := sumF_dropL (fun x => x.data.length) h.srt hn
    have h2 := h.held
    show (heldF (dropL X.l n) : Int) ≤ X.bytes
    have e1 : heldF (dropL X.l n) = sumF (fun x => x.data.length) (dropL X.l n) := rfl
    have e2 : heldF X.l = sumF (fun x => x.data.length) X.l := rfl
    omega
  · obtain ⟨a, b, z, hzm, hzn⟩ := h.es y (hsub y hy).1 e hee
    exact ⟨a, b, z, mem_dropL.2 ⟨hzm, by rw [hzn]; exact hz y (hsub y hy).1 e hee⟩, hzn⟩
  · show 1 ≤ lks (dropL X.l n) y.num
    rw [lk]; exact h.lk1 y (hsub y hy).1 (hsub y hy).2
  · show lks (dropL X.l n) y.num = 1
    rw [lk]; exact h.lkd y (hsub y hy).1 (hsub y hy).2 hyk
  · obtain ⟨rk, hrk⟩ := h.rk
    exact ⟨rk, fun y hy e hee z hz hze hzk => hrk y (hsub y hy).1 e hee z (hsub z hz).1 hze hzk⟩
/-! ### An inode more -/
theorem get_fresh {X : Im} (h : ∀ x ∈ X.l, 1 ≤ x.num ∧ x.num < X.next) : get X.l X.next = none := get_none.2 (fun x hx e => by have := h x hx; omega)
theorem lks_append (l : List Nd) {y : Nd} (hy : y.ents = []) (k : Int) : lks (l ++ [y]) k = lks l k := by
  unfold lks
  rw [lkS_sum, lkS_sum, sumF_append]
  simp [sumF, hy, nameN_nil]
theorem lks_fresh {X : Im} (h : WF X) : lks X.l X.next = 0 := by
  have h1 := h.x1
  unfold lks
  rw [if_neg (by omega)]
  rw [lkS_sum]
  by_cases hz : 0 < sumF (fun x => nameN x.ents X.next) X.l
  · obtain ⟨x, hx, hg⟩ := sumF_pos hz
    obtain ⟨e, he, he2⟩ := nameN_pos.1 hg
    obtain ⟨_, _, y, hy, hyn⟩ := h.es x hx e he
    have := h.nums y hy
    omega
  · omega
theorem wf_app {X : Im} (h : WF X) {y : Nd} (hy : y.num = X.next) (hok : NdOk y) (he : y.ents = []) (hd : y.data = []) (hl : (X.l.length : Int) < X.nodes) (hn : X.next < 1099511627776) : WFx { X with next := X.next + 1, l := X.l ++ [y] } X.next := by
  have h1 := h.x1
  have hin : ∀ z ∈ X.l ++ [y], z ∈ X.l ∨ z = y := fun z hz => by
    rw [List.mem_append] at hz
    rcases hz with hz | hz
    · exact .inl hz
    · exact .inr (by simpa using hz)
  refine ⟨h.n1, h.n2, h.b1, h.b2, by show 2 ≤ X.next + 1; omega, by show X.next + 1 ≤ _; omega, ?_, ?_, fun z hz => ?_, ?_, fun z hz => ?_, ?_, fun z hz e hee => ?_, fun z hz => ?_, fun z hz hzn => ?_, fun z hz hzn hzk => ?_, ?_⟩
  · rw [List.pairwise_append]
    refine ⟨h.srt, List.pairwise_singleton .., fun a ha b hb => ?_⟩
    have : b = y := by simpa using hb
    rw [this, hy]
    exact (h.nums a ha).2
  · obtain ⟨r, t, e, r1, r2⟩ := h.rt
    exact ⟨r, t ++ [y], by show X.l ++ [y] = _; rw [e]; rfl, r1, r2⟩
  · show 1 ≤ z.num ∧ z.num < X.next + 1
    rcases hin z hz with hz | rfl
    · have := h.nums z hz; omega
    · omega
  · show ((X.l ++ [y]).length : Int) ≤ X.nodes
    rw [List.length_append]; simp; omega
  · rcases hin z hz with hz | rfl
    · exact h.kinds z hz
    · exact hok
  · have := h.held
    show (heldF (X.l ++ [y]) : Int) ≤ X.bytes
    have e1 : heldF (X.l ++ [y]) = heldF X.l := by
      rw [heldF_sum, heldF_sum, sumF_append]
      simp [sumF, hd]
    rw [e1]
    exact this
  · rcases hin z hz with hz | rfl
    · obtain ⟨a, b, v, hv, hvn⟩ := h.es z hz e hee
      exact ⟨a, b, v, List.mem_append_left _ hv, hvn⟩
    · rw [he] at hee; cases hee
  · rcases hin z hz with hz | rfl
    · exact h.esrt z hz
    · rw [he]; exact .nil
  · show 1 ≤ lks (X.l ++ [y]) z.num
    rw [lks_append _ he]
    rcases hin z hz with hz | rfl
    · exact h.lk1 z hz
    · exact absurd hy hzn
  · show lks (X.l ++ [y]) z.num = 1
    rw [lks_append _ he]
    rcases hin z hz with hz | rfl
    · exact h.lkd z hz hzk
    · exact absurd hy hzn
  · obtain ⟨rk, hrk⟩ := h.rk
    have hnew : ∀ z ∈ X.l, ∀ e ∈ z.ents, e.2 ≠ X.next := fun z hz e hee h2 => by
      obtain ⟨_, _, v, hv, hvn⟩ := h.es z hz e hee
      have := h.nums v hv
      omega
    refine ⟨rk, fun z hz e hee v hv hve hvk => ?_⟩
    rcases hin z hz with hz2 | rfl
    · rcases hin v hv with hv2 | rfl
      · exact hrk z hz2 e hee v hv2 hve hvk
      · exact absurd (hve.symm.trans hy) (hnew z hz2 e hee)
    · rw [he] at hee; cases hee
/-! ### Another content -/
theorem wf_upd {X : Im} (h : WF X) {n : Int} {xn : Nd} (hn : get X.l n = some xn) {f : Nd → Nd} (f1 : ∀ x, (f x).num = x.num) (f2 : ∀ x, (f x).kind = x.kind) (f3 : ∀ x, (f x).ents = x.ents) (hok : NdOk (f xn)) (hh : (heldF (updL X.l n f) : Int) ≤ X.bytes) : WF { X with l := updL X.l n f } := by
  obtain ⟨xnm, xnn⟩ := get_some hn
  have hm : ∀ y ∈ updL X.l n f, ∃ x ∈ X.l, y.num = x.num ∧ y.kind = x.kind ∧ y.ents = x.ents ∧ NdOk y := fun y hy => by
    obtain ⟨x, hx, h1 | h1⟩ := mem_updL hy
    · obtain ⟨h1, rfl⟩ := h1
      have : x = xn := h.uniq hx xnm (by rw [h1, xnn])
      exact ⟨x, hx, f1 x, f2 x, f3 x, by rw [this]; exact hok⟩
    · obtain ⟨h1, rfl⟩ := h1
      exact ⟨y, hx, rfl, rfl, rfl, h.kinds y hx⟩
  have hb : ∀ x ∈ X.l, ∃ y ∈ updL X.l n f, y.num = x.num := fun x hx => ⟨_, updL_mem hx, by split; exact f1 x; rfl⟩
  have lk : ∀ k, lks (updL X.l n f) k = lks X.l k := fun k => by
    have := sumF_updL (fun x => nameN x.ents k) h.srt hn f
    simp only [f3] at this
    unfold lks
    rw [lkS_sum, lkS_sum]
    omega
  refine ⟨h.n1, h.n2, h.b1, h.b2, h.x1, h.x2, srt_updL h.srt n f1, root_upd h.rt n (fun x => ⟨f1 x, f2 x⟩), fun y hy => ?_, ?_, fun y hy => ?_, hh, fun y hy e hee => ?_, fun y hy => ?_, fun y hy => ?_, fun y hy hyk => ?_, ?_⟩
  · obtain ⟨x, hx, e1, _⟩ := hm y hy
    rw [e1]; exact h.nums x hx
  · show ((updL X.l n f).length : Int) ≤ _
    rw [len_updL]; exact h.len
  · obtain ⟨x, hx, _, _, _, e⟩ := hm y hy
    exact e
  · obtain ⟨x, hx, e1, e2, e3, _⟩ := hm y hy
    rw [e3] at hee
    obtain ⟨a, b, v, hv, hvn⟩ := h.es x hx e hee
    obtain ⟨v', hv', hvn'⟩ := hb v hv
    exact ⟨a, b, v', hv', by rw [hvn', hvn]⟩
  · obtain ⟨x, hx, e1, e2, e3, _⟩ := hm y hy
    rw [e3]; exact h.esrt x hx
  · obtain ⟨x, hx, e1, _⟩ := hm y hy
    show 1 ≤ lks (updL X.l n f) y.num
    rw [lk, e1]; exact h.lk1 x hx
  · obtain ⟨x, hx, e1, e2, _⟩ := hm y hy
    show lks (updL X.l n f) y.num = 1
    rw [lk, e1]; exact h.lkd x hx (by rw [← e2]; exact hyk)
  · obtain ⟨rk, hrk⟩ := h.rk
    refine ⟨rk, fun y hy e hee v hv hve hvk => ?_⟩
    obtain ⟨x, hx, e1, e2, e3, _⟩ := hm y hy
    obtain ⟨u, hu, g1, g2, _⟩ := hm v hv
    rw [e1, g1]
    exact hrk x hx e (by rw [← e3]; exact hee) u hu (by rw [← g1, hve]) (by rw [← g2, hvk])
end Go.Proofs.YtcogkhcfpgelhaaGreat

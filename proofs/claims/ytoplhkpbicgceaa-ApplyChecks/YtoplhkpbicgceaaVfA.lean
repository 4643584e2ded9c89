import Derived.Test.YtoplhkpbicgceaaPtB
namespace Go.Proofs.Ytoplhkpbicgceaa
open Go.RowKit
set_option linter.unusedVariables false
/-! ### The document's file system -/
structure Mt where
  mode : Nat
  uid : Nat
  gid : Nat
  time : Int
  nano : Int
structure Nd where
  num : Int
  kind : Int
  mt : Mt
  data : List By
  tgt : Tx
  ents : List (Tx × Int)
structure Im where
  nodes : Int
  bytes : Int
  next : Int
  l : List Nd
structure Ac where
  op : Int
  dir : Int
  name : Tx
  node : Int
  too : Int
  other : Tx
  pl : Int
  n : Int
def nmOk (s : Tx) : Bool := decide (s ≠ []) && decide (s.length ≤ 255) && !decide ((0 : UInt8) ∈ s) && !decide ((47 : UInt8) ∈ s) && decide (s ≠ [46]) && decide (s ≠ [46, 46])
def tgOk (s : Tx) : Bool := decide (s ≠ []) && decide (s.length ≤ 4096) && !decide ((0 : UInt8) ∈ s)
def mtOk (m : Mt) : Bool := decide (m.mode ≤ 4095) && decide (0 ≤ m.nano) && decide (m.nano < 1000000000)
def get (l : List Nd) (n : Int) : Option Nd := l.find? (fun x => decide (x.num = n))
def entL (es : List (Tx × Int)) (s : Tx) : Option Int := (es.find? (fun e => decide (e.1 = s))).map (·.2)
def nameN (es : List (Tx × Int)) (n : Int) : Nat := (es.filter (fun e => decide (e.2 = n))).length
def lkS (l : List Nd) (n : Int) : Nat := (l.map (fun x => nameN x.ents n)).sum
def lks (l : List Nd) (n : Int) : Nat := lkS l n + if n = 1 then 1 else 0
def upF (l : List Nd) (n : Int) : Int := ((l.find? (fun x => x.ents.any (fun e => decide (e.2 = n)))).map (·.num)).getD 1
def heldF (l : List Nd) : Nat := (l.map (fun x => x.data.length)).sum
def insE (s : Tx) (n : Int) : List (Tx × Int) → List (Tx × Int)
  | [] => [(s, n)]
  | e :: r => if lt s e.1 then (s, n) :: e :: r else e :: insE s n r
def delE (s : Tx) (es : List (Tx × Int)) : List (Tx × Int) := es.filter (fun e => !decide (e.1 = s))
def updL (l : List Nd) (n : Int) (f : Nd → Nd) : List Nd := l.map (fun x => if x.num = n then f x else x)
def dropL (l : List Nd) (n : Int) : List Nd := l.filter (fun x => !decide (x.num = n))
/-- What an inode may be by itself. -/
def NdOk (x : Nd) : Prop := mtOk x.mt = true ∧ (x.kind = 1 ∧ x.data = [] ∧ x.tgt = [] ∨ x.kind = 2 ∧ x.data.length ≤ 4194304 ∧ x.tgt = [] ∧ x.ents = [] ∨ x.kind = 3 ∧ x.data = [] ∧ tgOk x.tgt = true ∧ x.ents = [])
/-- An image that can be. -/
structure WF (X : Im) : Prop where
  n1 : 1 ≤ X.nodes
  n2 : X.nodes ≤ 4096
  b1 : 0 ≤ X.bytes
  b2 : X.bytes ≤ 4194304
  x1 : 2 ≤ X.next
  x2 : X.next ≤ 1099511627776
  srt : X.l.Pairwise (fun a b => a.num < b.num)
  rt : ∃ r t, X.l = r :: t ∧ r.num = 1 ∧ r.kind = 1
  nums : ∀ x ∈ X.l, 1 ≤ x.num ∧ x.num < X.next
  len : (X.l.length : Int) ≤ X.nodes
  kinds : ∀ x ∈ X.l, NdOk x
  held : (heldF X.l : Int) ≤ X.bytes
  es : ∀ x ∈ X.l, ∀ e ∈ x.ents, nmOk e.1 = true ∧ e.2 ≠ 1 ∧ ∃ y ∈ X.l, y.num = e.2
  esrt : ∀ x ∈ X.l, x.ents.Pairwise (fun a b => lt a.1 b.1 = true)
  lk1 : ∀ x ∈ X.l, 1 ≤ lks X.l x.num
  lkd : ∀ x ∈ X.l, x.kind = 1 → lks X.l x.num = 1
  rk : ∃ rk : Int → Nat, ∀ x ∈ X.l, ∀ e ∈ x.ents, ∀ y ∈ X.l, y.num = e.2 → y.kind = 1 → rk x.num < rk y.num
/-! ### Looking up -/
theorem get_some {l : List Nd} {n : Int} {x : Nd} (h : get l n = some x) : x ∈ l ∧ x.num = n := by
  unfold get at h
  have h2 := List.find?_some h
  exact ⟨List.mem_of_find?_eq_some h, by simpa using h2⟩
theorem get_none {l : List Nd} {n : Int} : get l n = none ↔ ∀ x ∈ l, x.num ≠ n := by
  unfold get
  rw [List.find?_eq_none]
  simp
theorem get_mem {l : List Nd} (h : l.Pairwise (fun a b => a.num < b.num)) {x : Nd} (hx : x ∈ l) : get l x.num = some x := by
  induction l with
  | nil => simp at hx
  | cons y r ih =>
    rw [List.pairwise_cons] at h
    unfold get
    rw [List.find?_cons]
    rcases List.mem_cons.1 hx with rfl | hx
    · simp
    · have := h.1 x hx
      rw [decide_eq_false (by omega)]
      exact ih h.2 hx
theorem WF.get {X : Im} (h : WF X) {x : Nd} (hx : x ∈ X.l) : get X.l x.num = some x := get_mem h.srt hx
theorem WF.uniq {X : Im} (h : WF X) {x y : Nd} (hx : x ∈ X.l) (hy : y ∈ X.l) (e : x.num = y.num) : x = y := by
  have h1 := h.get hx
  have h2 := h.get hy
  rw [e, h2] at h1
  injection h1 with h1
  exact h1.symm
theorem get_updL (l : List Nd) (n k : Int) (f : Nd → Nd) (hf : ∀ x, (f x).num = x.num) : get (updL l n f) k = if k = n then (get l k).map f else get l k := by
  induction l with
  | nil => simp [get, updL]
  | cons x r ih =>
    unfold get updL at *
    rw [List.map_cons, List.find?_cons, List.find?_cons]
    by_cases hx : x.num = n
    · simp only [hx, if_true, hf]
      by_cases hk : n = k
      · subst hk; simp
      · rw [decide_eq_false hk]
        simp only
        rw [ih]
    · simp only [hx, if_false]
      by_cases hk : x.num = k
      · rw [decide_eq_true hk]
        simp only
        rw [if_neg (fun e => hx (hk.trans e))]
      · rw [decide_eq_false hk]
        simp only
        rw [ih]
theorem get_append (l m : List Nd) (k : Int) : get (l ++ m) k = (get l k).or (get m k) := by
  unfold get
  rw [List.find?_append]
theorem get_dropL (l : List Nd) (n k : Int) : get (dropL l n) k = if k = n then none else get l k := by
  induction l with
  | nil => simp [get, dropL]
  | cons x r ih =>
    unfold get dropL at *
    rw [List.filter_cons]
    by_cases hx : x.num = n
    · simp only [hx, decide_true, Bool.not_true, Bool.false_eq_true, if_false]
      rw [ih, List.find?_cons]
      by_cases hk : k = n
      · rw [if_pos hk, if_pos hk]
      · rw [if_neg hk, if_neg hk, decide_eq_false (fun e => hk (by rw [← e, hx]))]
    · simp only [hx, decide_false, Bool.not_false, if_true]
      rw [List.find?_cons, List.find?_cons, ih]
      by_cases hk : x.num = k
      · rw [decide_eq_true hk]
        simp only
        rw [if_neg (fun e => hx (hk.trans e))]
      · rw [decide_eq_false hk]
theorem entL_insE (es : List (Tx × Int)) (s : Tx) (n : Int) (h : entL es s = none) (k : Tx) : entL (insE s n es) k = if k = s then some n else entL es k := by
  induction es with
  | nil =>
    unfold insE entL
    rw [List.find?_cons]
    by_cases hk : k = s
    · rw [if_pos hk, decide_eq_true hk.symm]; rfl
    · rw [if_neg hk, decide_eq_false (fun e => hk e.symm)]
  | cons e r ih =>
    have hne : e.1 ≠ s := by
      intro he
      unfold entL at h
      rw [List.find?_cons, decide_eq_true he] at h
      cases h
    have hr : entL r s = none := by
      unfold entL at h ⊢
      rw [List.find?_cons, decide_eq_false hne] at h
      exact h
    unfold insE
    split
    · unfold entL
      rw [List.find?_cons]
      by_cases hk : k = s
      · rw [if_pos hk, decide_eq_true hk.symm]; rfl
      · rw [if_neg hk, decide_eq_false (fun e => hk e.symm)]
    · have ih := ih hr
      unfold entL at ih ⊢
      rw [List.find?_cons, List.find?_cons]
      by_cases hk : e.1 = k
      · rw [decide_eq_true hk]
        simp only
        rw [if_neg (fun e' => hne (hk.trans e'))]
      · rw [decide_eq_false hk]
        exact ih
theorem insE_length (es : List (Tx × Int)) (s : Tx) (n : Int) : (insE s n es).length = es.length + 1 := by
  induction es with
  | nil => rfl
  | cons e r ih =>
    unfold insE
    split
    · rfl
    · rw [List.length_cons, ih]; rfl
theorem mem_insE {es : List (Tx × Int)} {s : Tx} {n : Int} {e : Tx × Int} : e ∈ insE s n es ↔ e = (s, n) ∨ e ∈ es := by
  induction es with
  | nil => simp [insE]
  | cons x r ih =>
    unfold insE
    split
    · simp
    · rw [List.mem_cons, ih, List.mem_cons]
      constructor
      · rintro (h | h | h)
        · exact .inr (.inl h)
        · exact .inl h
        · exact .inr (.inr h)
      · rintro (h | h | h)
        · exact .inr (.inl h)
        · exact .inl h
        · exact .inr (.inr h)
theorem nameN_insE (es : List (Tx × Int)) (s : Tx) (n k : Int) : nameN (insE s n es) k = nameN es k + if n = k then 1 else 0 := by
  induction es with
  | nil =>
    unfold insE nameN
    by_cases h : n = k <;> simp [h]
  | cons e r ih =>
    unfold insE
    split
    · unfold nameN
      rw [List.filter_cons]
      by_cases h : n = k
      · simp [h]
      · simp [h]
    · unfold nameN at *
      rw [List.filter_cons, List.filter_cons]
      by_cases h : e.2 = k
      · simp only [h, decide_true, if_true, List.length_cons]
        rw [ih]; omega
      · simp only [h, decide_false, Bool.false_eq_true, if_false]
        exact ih
theorem insE_sorted {es : List (Tx × Int)} (h : es.Pairwise (fun a b => lt a.1 b.1 = true)) {s : Tx} (hs : entL es s = none) (n : Int) : (insE s n es).Pairwise (fun a b => lt a.1 b.1 = true) := by
  induction es with
  | nil => simp [insE]
  | cons e r ih =>
    rw [List.pairwise_cons] at h
    have hne : e.1 ≠ s := by
      intro he
      unfold entL at hs
      rw [List.find?_cons, decide_eq_true he] at hs
      cases hs
    have hr : entL r s = none := by
      unfold entL at hs ⊢
      rw [List.find?_cons, decide_eq_false hne] at hs
      exact hs
    unfold insE
    split
    · rename_i hlt
      refine List.pairwise_cons.2 ⟨fun x hx => ?_, List.pairwise_cons.2 ⟨h.1, h.2⟩⟩
      rcases List.mem_cons.1 hx with rfl | hx
      · exact hlt
      · exact lt_trans hlt (h.1 x hx)
    · rename_i hlt
      have hle : lt e.1 s = true := by
        rcases lt_tri e.1 s with h1 | h1 | h1
        · exact h1
        · exact absurd h1 hne
        · exact absurd h1 hlt
      refine List.pairwise_cons.2 ⟨fun x hx => ?_, ih h.2 hr⟩
      rcases mem_insE.1 hx with rfl | hx
      · exact hle
      · exact h.1 x hx
theorem entL_some {es : List (Tx × Int)} {s : Tx} {n : Int} (h : entL es s = some n) : (s, n) ∈ es := by
  unfold entL at h
  cases hf : es.find? (fun e => decide (e.1 = s)) with
  | none => rw [hf] at h; cases h
  | some e =>
    rw [hf] at h
    simp only [Option.map_some, Option.some.injEq] at h
    have h1 := List.mem_of_find?_eq_some hf
    have h2 := List.find?_some hf
    simp only [decide_eq_true_eq] at h2
    rw [← h, ← h2]; exact h1
theorem entL_none {es : List (Tx × Int)} {s : Tx} : entL es s = none ↔ ∀ e ∈ es, e.1 ≠ s := by
  unfold entL
  rw [Option.map_eq_none_iff, List.find?_eq_none]
  simp
theorem entL_mem {es : List (Tx × Int)} (h : es.Pairwise (fun a b => lt a.1 b.1 = true)) {e : Tx × Int} (he : e ∈ es) : entL es e.1 = some e.2 := by
  induction es with
  | nil => simp at he
  | cons y r ih =>
    rw [List.pairwise_cons] at h
    unfold entL
    rw [List.find?_cons]
    rcases List.mem_cons.1 he with rfl | he
    · simp
    · have := h.1 e he
      rw [decide_eq_false (fun e' => by rw [e', lt_irrefl] at this; cases this)]
      exact ih h.2 he
theorem entL_delE (es : List (Tx × Int)) (s k : Tx) : entL (delE s es) k = if k = s then none else entL es k := by
  induction es with
  | nil => simp [entL, delE]
  | cons e r ih =>
    unfold entL delE at *
    rw [List.filter_cons]
    by_cases hx : e.1 = s
    · simp only [hx, decide_true, Bool.not_true, Bool.false_eq_true, if_false]
      rw [ih, List.find?_cons]
      by_cases hk : k = s
      · rw [if_pos hk, if_pos hk]
      · rw [if_neg hk, if_neg hk, decide_eq_false (fun e' => hk (by rw [← e', hx]))]
    · simp only [hx, decide_false, Bool.not_false, if_true]
      rw [List.find?_cons, List.find?_cons]
      by_cases hk : e.1 = k
      · rw [decide_eq_true hk]
        simp only
        rw [if_neg (fun e' => hx (hk.trans e'))]
      · rw [decide_eq_false hk]
        exact ih
theorem delE_length {es : List (Tx × Int)} (h : es.Pairwise (fun a b => lt a.1 b.1 = true)) (s : Tx) : (delE s es).length + (if (entL es s).isSome then 1 else 0) = es.length := by
  induction es with
  | nil => simp [entL, delE]
  | cons e r ih =>
    rw [List.pairwise_cons] at h
    have ih := ih h.2
    unfold delE entL at *
    rw [List.filter_cons, List.find?_cons]
    by_cases hx : e.1 = s
    · simp only [hx, decide_true, Bool.not_true, Bool.false_eq_true, if_false]
      have hn : r.find? (fun e => decide (e.1 = s)) = none := by
        rw [List.find?_eq_none]
        intro x hx2
        have := h.1 x hx2
        simp only [decide_eq_true_eq]
        intro e'
        rw [hx, e', lt_irrefl] at this; cases this
      rw [hn] at ih
      simp at ih ⊢
      exact ih
    · simp only [hx, decide_false, Bool.not_false, if_true, List.length_cons]
      omega
theorem nameN_delE {es : List (Tx × Int)} (h : es.Pairwise (fun a b => lt a.1 b.1 = true)) (s : Tx) (k : Int) : nameN (delE s es) k + (if entL es s = some k then 1 else 0) = nameN es k := by
  induction es with
  | nil => simp [entL, delE, nameN]
  | cons e r ih =>
    rw [List.pairwise_cons] at h
    have ih := ih h.2
    unfold delE entL nameN at *
    rw [List.filter_cons, List.find?_cons]
    by_cases hx : e.1 = s
    · simp only [hx, decide_true, Bool.not_true, Bool.false_eq_true, if_false, Option.map_some, Option.some.injEq]
      have hn : r.find? (fun e => decide (e.1 = s)) = none := by
        rw [List.find?_eq_none]
        intro x hx2
        have := h.1 x hx2
        simp only [decide_eq_true_eq]
        intro e'
        rw [hx, e', lt_irrefl] at this; cases this
      rw [hn] at ih
      rw [List.filter_cons]
      by_cases hk : e.2 = k
      · simp [hk] at ih ⊢
        exact ih
      · simp [hk] at ih ⊢
        exact ih
    · simp only [hx, decide_false, Bool.not_false, if_true]
      rw [List.filter_cons, List.filter_cons]
      by_cases hk : e.2 = k
      · simp only [hk, decide_true, if_true, List.length_cons]
        omega
      · simp only [hk, decide_false, Bool.false_eq_true, if_false]
        exact ih
theorem delE_sorted {es : List (Tx × Int)} (h : es.Pairwise (fun a b => lt a.1 b.1 = true)) (s : Tx) : (delE s es).Pairwise (fun a b => lt a.1 b.1 = true) := h.filter _
theorem mem_delE {es : List (Tx × Int)} {s : Tx} {e : Tx × Int} (h : e ∈ delE s es) : e ∈ es ∧ e.1 ≠ s := by
  unfold delE at h
  rw [List.mem_filter] at h
  exact ⟨h.1, by simpa using h.2⟩
end Go.Proofs.Ytoplhkpbicgceaa

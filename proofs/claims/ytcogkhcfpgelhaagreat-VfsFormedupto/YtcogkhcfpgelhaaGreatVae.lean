import Derived.Test.YtcogkhcfpgelhaaGreatVaa
namespace Go.Proofs.YtcogkhcfpgelhaaGreat
open Go.RowKit
set_option linter.unusedVariables false
/-! ### Names as lists of bytes -/
abbrev Tx := List UInt8
/-- What stands between slashes. -/
def pcs : Tx → List Tx
  | [] => [[]]
  | c :: r => if c = 47 then [] :: pcs r else match pcs r with
    | [] => [[c]]
    | p :: ps => (c :: p) :: ps
theorem pcs_ne (l : Tx) : pcs l ≠ [] := by
  cases l with
  | nil => simp [pcs]
  | cons c r =>
    rw [pcs]
    split
    · simp
    · split <;> simp
theorem pcs_cons {l : Tx} : ∃ p ps, pcs l = p :: ps := by
  cases h : pcs l with
  | nil => exact absurd h (pcs_ne l)
  | cons p ps => exact ⟨p, ps, rfl⟩
theorem pcs_none (l : Tx) (h : (47 : UInt8) ∉ l) : pcs l = [l] := by
  induction l with
  | nil => rfl
  | cons c r ih =>
    rw [List.mem_cons, not_or] at h
    rw [pcs, if_neg (fun e => h.1 e.symm), ih h.2]
theorem pcs_at (p r : Tx) (h : (47 : UInt8) ∉ p) : pcs (p ++ 47 :: r) = p :: pcs r := by
  induction p with
  | nil => simp [pcs]
  | cons c q ih =>
    rw [List.mem_cons, not_or] at h
    rw [List.cons_append, pcs, if_neg (fun e => h.1 e.symm), ih h.2]
/-- A piece has no slash. -/
theorem pcs_noslash (l : Tx) : ∀ p ∈ pcs l, (47 : UInt8) ∉ p := by
  induction l with
  | nil => intro p hp; simp [pcs] at hp; subst hp; simp
  | cons c r ih =>
    intro p hp
    rw [pcs] at hp
    split at hp
    · rcases List.mem_cons.1 hp with rfl | hp
      · simp
      · exact ih p hp
    · rename_i hc
      obtain ⟨q, qs, e⟩ := pcs_cons (l := r)
      rw [e] at hp ih
      rcases List.mem_cons.1 hp with rfl | hp
      · rw [List.mem_cons, not_or]
        exact ⟨fun e => hc e.symm, ih q (by simp)⟩
      · exact ih p (by simp [hp])
theorem pcs_sub (l : Tx) : ∀ p ∈ pcs l, ∀ c ∈ p, c ∈ l := by
  induction l with
  | nil => intro p hp; simp [pcs] at hp; subst hp; simp
  | cons c r ih =>
    intro p hp x hx
    rw [pcs] at hp
    split at hp
    · rcases List.mem_cons.1 hp with rfl | hp
      · simp at hx
      · exact List.mem_cons_of_mem _ (ih p hp x hx)
    · obtain ⟨q, qs, e⟩ := pcs_cons (l := r)
      rw [e] at hp ih
      rcases List.mem_cons.1 hp with rfl | hp
      · rcases List.mem_cons.1 hx with rfl | hx
        · simp
        · exact List.mem_cons_of_mem _ (ih q (by simp) x hx)
      · exact List.mem_cons_of_mem _ (ih p (by simp [hp]) x hx)
/-- How long pieces are, with a sign behind each. -/
def tot : List Tx → Nat
  | [] => 0
  | p :: ps => p.length + 1 + tot ps
theorem pcs_tot (l : Tx) : tot (pcs l) = l.length + 1 := by
  induction l with
  | nil => rfl
  | cons c r ih =>
    rw [pcs]
    split
    · rw [tot, ih]; simp; omega
    · obtain ⟨q, qs, e⟩ := pcs_cons (l := r)
      rw [e] at ih ⊢
      simp only [tot, List.length_cons] at ih ⊢
      omega
theorem tot_filter (f : Tx → Bool) (ps : List Tx) : tot (ps.filter f) ≤ tot ps := by
  induction ps with
  | nil => simp [tot]
  | cons p r ih =>
    rw [List.filter_cons]
    split
    · simp only [tot]; omega
    · simp only [tot]; omega
theorem tot_len (ps : List Tx) : ps.length ≤ tot ps := by
  induction ps with
  | nil => simp
  | cons p r ih => simp only [tot, List.length_cons]; omega
theorem pcs_len (l : Tx) : (pcs l).length ≤ l.length + 1 := by
  have := tot_len (pcs l)
  rw [pcs_tot] at this; exact this
/-- With a slash between each two. -/
def jn : List Tx → Tx
  | [] => []
  | [p] => p
  | p :: q :: r => p ++ 47 :: jn (q :: r)
theorem jn_length (p : Tx) (r : List Tx) : (jn (p :: r)).length + 1 = tot (p :: r) := by
  induction r generalizing p with
  | nil => simp [jn, tot]
  | cons q r ih =>
    have := ih q
    simp only [jn, List.length_append, List.length_cons] at this ⊢
    rw [tot]
    omega
theorem pcs_jn (p : Tx) (r : List Tx) (h : ∀ x ∈ p :: r, (47 : UInt8) ∉ x) : pcs (jn (p :: r)) = p :: r := by
  induction r generalizing p with
  | nil => exact pcs_none p (h p (by simp))
  | cons q r ih =>
    rw [jn, pcs_at _ _ (h p (by simp)), ih q (fun x hx => h x (by simp only [List.mem_cons] at hx ⊢; rcases hx with h | h <;> simp [h]))]
/-- A piece that leads nowhere else. -/
def stays (p : Tx) : Bool := p == [] || p == [46]
def cps (l : Tx) : List Tx := (pcs l).filter (fun p => !stays p)
theorem cps_mem {l p : Tx} (h : p ∈ cps l) : p ∈ pcs l ∧ stays p = false := by
  unfold cps at h
  rw [List.mem_filter] at h
  exact ⟨h.1, by simpa using h.2⟩
theorem cps_tot (l : Tx) : tot (cps l) ≤ l.length + 1 := by
  have := tot_filter (fun p => !stays p) (pcs l)
  rw [pcs_tot] at this
  exact this
/-- What is wrong with a component: 0 if nothing. -/
def ptF (p : Tx) : Nat := if stays p then 90 else if p = [46, 46] then 92 else if (0 : UInt8) ∈ p then 93 else if (47 : UInt8) ∈ p then 91 else if 255 < p.length then 94 else 0
def ptsF : List Tx → Nat
  | [] => 0
  | p :: r => if ptF p = 0 then ptsF r else ptF p
/-- Why parts can't be a name. -/
def ftF (ps : List Tx) : Nat := if ps = [] then 90 else if ptsF ps = 0 then (if 256 < ps.length then 95 else if 4096 + 1 < tot ps then 2 else 0) else ptsF ps
def joinF (ps : List Tx) : Tx × Nat := if ftF ps = 0 then (jn ps, 0) else ([], ftF ps)
def splE (l : Tx) : Nat := if 4096 < l.length then 2 else if (0 : UInt8) ∈ l then 93 else if l.head? = some 47 then 91 else if ([46, 46] : Tx) ∈ pcs l then 92 else if cps l = [] then 90 else if ∃ p ∈ cps l, 255 < p.length then 94 else if 256 < (cps l).length then 95 else 0
def splF (l : Tx) : List Tx × Nat := if splE l = 0 then (cps l, 0) else ([], splE l)
def clnF (l : Tx) : Tx × Nat := if splE l = 0 then joinF (cps l) else ([], splE l)
theorem ptsF_zero (ps : List Tx) : ptsF ps = 0 ↔ ∀ p ∈ ps, ptF p = 0 := by
  induction ps with
  | nil => simp [ptsF]
  | cons p r ih =>
    rw [ptsF]
    split
    · rename_i h; rw [ih]; simp [h]
    · rename_i h; simp [h]
theorem ptF_zero (p : Tx) : ptF p = 0 ↔ stays p = false ∧ p ≠ [46, 46] ∧ (0 : UInt8) ∉ p ∧ (47 : UInt8) ∉ p ∧ p.length ≤ 255 := by
  unfold ptF
  repeat' split
  all_goals simp_all
theorem splE_zero (l : Tx) : splE l = 0 ↔ l.length ≤ 4096 ∧ (0 : UInt8) ∉ l ∧ l.head? ≠ some 47 ∧ ([46, 46] : Tx) ∉ pcs l ∧ cps l ≠ [] ∧ (∀ p ∈ cps l, p.length ≤ 255) ∧ (cps l).length ≤ 256 := by
  unfold splE
  constructor
  · intro h
    repeat' split at h
    all_goals first | (cases h; done) | skip
    rename_i a1 a2 a3 a4 a5 a6 a7
    exact ⟨by omega, a2, a3, a4, a5, fun p hp => Nat.le_of_not_lt (fun hl => a6 ⟨p, hp, hl⟩), by omega⟩
  · rintro ⟨h1, h2, h3, h4, h5, h6, h7⟩
    rw [if_neg (by omega), if_neg h2, if_neg h3, if_neg h4, if_neg h5, if_neg (fun ⟨p, hp, hl⟩ => by have := h6 p hp; omega), if_neg (by omega)]
/-- What Split takes can be a name. -/
theorem spl_parts {l : Tx} (h : splE l = 0) : ∀ p ∈ cps l, ptF p = 0 := by
  rw [splE_zero] at h
  obtain ⟨h1, h2, h3, h4, h5, h6, h7⟩ := h
  intro p hp
  obtain ⟨hm, hs⟩ := cps_mem hp
  rw [ptF_zero]
  exact ⟨hs, fun e => h4 (e ▸ hm), fun e => h2 (pcs_sub l p hm 0 e), pcs_noslash l p hm, h6 p hp⟩
theorem spl_ft {l : Tx} (h : splE l = 0) : ftF (cps l) = 0 := by
  have hp := spl_parts h
  rw [splE_zero] at h
  obtain ⟨h1, h2, h3, h4, h5, h6, h7⟩ := h
  have ht := cps_tot l
  unfold ftF
  rw [if_neg h5, if_pos ((ptsF_zero _).2 hp), if_neg (by omega), if_neg (by omega)]
theorem ft_zero (ps : List Tx) : ftF ps = 0 ↔ ps ≠ [] ∧ (∀ p ∈ ps, ptF p = 0) ∧ ps.length ≤ 256 ∧ tot ps ≤ 4097 := by
  unfold ftF
  rw [← ptsF_zero]
  constructor
  · intro h
    split at h
    · cases h
    rename_i a1
    split at h
    · rename_i a2
      split at h
      · cases h
      split at h
      · cases h
      exact ⟨a1, a2, by omega, by omega⟩
    · rename_i a2; exact absurd h a2
  · rintro ⟨h1, h2, h3, h4⟩
    rw [if_neg h1, if_pos h2, if_neg (by omega), if_neg (by omega)]
/-- What can be a name is one, and its components are the parts. -/
theorem jn_pcs {ps : List Tx} (h : ftF ps = 0) : pcs (jn ps) = ps := by
  rw [ft_zero] at h
  obtain ⟨h1, h2, h3, h4⟩ := h
  cases ps with
  | nil => exact absurd rfl h1
  | cons p r => exact pcs_jn p r (fun x hx => ((ptF_zero x).1 (h2 x hx)).2.2.2.1)
theorem jn_cps {ps : List Tx} (h : ftF ps = 0) : cps (jn ps) = ps := by
  unfold cps
  rw [jn_pcs h]
  rw [ft_zero] at h
  rw [List.filter_eq_self]
  intro p hp
  rw [((ptF_zero p).1 (h.2.1 p hp)).1]; rfl
theorem jn_mem (ps : List Tx) (c : UInt8) (h : c ∈ jn ps) : c = 47 ∨ ∃ p ∈ ps, c ∈ p := by
  induction ps with
  | nil => simp [jn] at h
  | cons p r ih =>
    cases r with
    | nil => exact .inr ⟨p, by simp, h⟩
    | cons q r =>
      rw [jn, List.mem_append, List.mem_cons] at h
      rcases h with h | h | h
      · exact .inr ⟨p, by simp, h⟩
      · exact .inl h
      · rcases ih h with h | ⟨x, h1, h2⟩
        · exact .inl h
        · exact .inr ⟨x, by simp [List.mem_cons.1 h1], h2⟩
theorem jn_head {ps : List Tx} (h : ftF ps = 0) : (jn ps).head? ≠ some 47 ∧ jn ps ≠ [] := by
  rw [ft_zero] at h
  obtain ⟨h1, h2, h3, h4⟩ := h
  cases ps with
  | nil => exact absurd rfl h1
  | cons p r =>
    have hp := (ptF_zero p).1 (h2 p (by simp))
    cases p with
    | nil => simp [stays] at hp
    | cons c q =>
      have hc : c ≠ 47 := fun e => hp.2.2.2.1 (by simp [e])
      cases r with
      | nil => simp [jn, hc]
      | cons x r => simp [jn, hc]
theorem jn_split {ps : List Tx} (h : ftF ps = 0) : splE (jn ps) = 0 := by
  have e1 := jn_pcs h
  have e2 := jn_cps h
  have e3 := jn_head h
  have hz := (ft_zero ps).1 h
  obtain ⟨h1, h2, h3, h4⟩ := hz
  rw [splE_zero, e1, e2]
  refine ⟨?_, ?_, e3.1, ?_, h1, fun p hp => ((ptF_zero p).1 (h2 p hp)).2.2.2.2, h3⟩
  · cases ps with
    | nil => exact absurd rfl h1
    | cons p r => have := jn_length p r; omega
  · intro h0
    rcases jn_mem ps 0 h0 with e | ⟨p, hp, h0⟩
    · exact absurd e (by decide)
    · exact ((ptF_zero p).1 (h2 p hp)).2.2.1 h0
  · intro hm
    exact ((ptF_zero _).1 (h2 _ hm)).2.1 rfl
/-- Gone through piece by piece: whether the top is left. -/
def lvP : Nat → List Tx → Bool
  | _, [] => false
  | d, p :: r => if stays p then lvP d r else if p = [46, 46] then (if d = 0 then true else lvP (d - 1) r) else lvP (d + 1) r
def lvF (d : Nat) (l : Tx) : Bool := decide (l.head? = some 47) || lvP d (pcs l)
theorem lvP_safe (ps : List Tx) (h : ∀ p ∈ ps, p ≠ [46, 46]) (d : Nat) : lvP d ps = false := by
  induction ps generalizing d with
  | nil => rfl
  | cons p r ih =>
    have hr := fun d => ih (fun x hx => h x (by simp [hx])) d
    rw [lvP, if_neg (h p (by simp))]
    split <;> exact hr _
theorem lv_safe {ps : List Tx} (h : ftF ps = 0) (d : Nat) : lvF d (jn ps) = false := by
  unfold lvF
  rw [jn_pcs h, decide_eq_false (jn_head h).1]
  rw [lvP_safe ps (fun p hp => ((ptF_zero p).1 (((ft_zero ps).1 h).2.1 p hp)).2.1)]
  rfl
theorem jn_inj {ps qs : List Tx} (hp : ftF ps = 0) (hq : ftF qs = 0) (h : jn ps = jn qs) : ps = qs := by
  rw [← jn_pcs hp, ← jn_pcs hq, h]
/-- Clean is Join of Split's, and Clean again is the same. -/
theorem cln_ok {l : Tx} (h : splE l = 0) : clnF l = (jn (cps l), 0) := by
  unfold clnF joinF
  rw [if_pos h, if_pos (spl_ft h)]
theorem cln_bad {l : Tx} (h : splE l ≠ 0) : clnF l = ([], splE l) := by
  unfold clnF
  rw [if_neg h]
end Go.Proofs.YtcogkhcfpgelhaaGreat

namespace Go.Proofs.YtcogkhcfpgelhaaGreat
open Go.RowKit
set_option linter.unusedVariables false
/-! ### The order of names -/
abbrev lt (a b : Tx) : Bool := Op.bytesLess a b
theorem lt_irrefl (a : Tx) : lt a a = false := by
  induction a with
  | nil => rfl
  | cons x r ih =>
    show (decide (x < x) || (x == x && Op.bytesLess r r)) = false
    rw [show Op.bytesLess r r = false from ih, decide_eq_false (UInt8.lt_irrefl x)]
    simp
theorem lt_cons (x y : UInt8) (a b : Tx) : lt (x :: a) (y :: b) = true ↔ x < y ∨ x = y ∧ lt a b = true := by
  show (decide (x < y) || (x == y && Op.bytesLess a b)) = true ↔ _
  simp
theorem lt_trans {a b c : Tx} (h : lt a b = true) (k : lt b c = true) : lt a c = true := by
  induction a generalizing b c with
  | nil => cases c with
    | nil => cases b <;> cases k
    | cons z c => rfl
  | cons x a ih =>
    cases b with
    | nil => cases h
    | cons y b =>
      cases c with
      | nil => cases k
      | cons z c =>
        rw [lt_cons] at h k ⊢
        rcases h with h | ⟨rfl, h⟩
        · rcases k with k | ⟨rfl, k⟩
          · exact .inl (UInt8.lt_trans h k)
          · exact .inl h
        · rcases k with k | ⟨rfl, k⟩
          · exact .inl k
          · exact .inr ⟨rfl, ih h k⟩
theorem lt_tri (a b : Tx) : lt a b = true ∨ a = b ∨ lt b a = true := by
  induction a generalizing b with
  | nil => cases b with
    | nil => exact .inr (.inl rfl)
    | cons y b => exact .inl rfl
  | cons x a ih =>
    cases b with
    | nil => exact .inr (.inr rfl)
    | cons y b =>
      rw [lt_cons, lt_cons]
      by_cases h1 : x < y
      · exact .inl (.inl h1)
      · by_cases h2 : y < x
        · exact .inr (.inr (.inl h2))
        · have e : x = y := UInt8.le_antisymm (UInt8.not_lt.1 h2) (UInt8.not_lt.1 h1)
          subst e
          rcases ih b with h | h | h
          · exact .inl (.inr ⟨rfl, h⟩)
          · exact .inr (.inl (by rw [h]))
          · exact .inr (.inr (.inr ⟨rfl, h⟩))
theorem lt_asymm {a b : Tx} (h : lt a b = true) : lt b a = false := by
  cases k : lt b a with
  | false => rfl
  | true => have := lt_trans h k; rw [lt_irrefl] at this; cases this
/-- Two texts: -1, 0, 1. -/
def cmT (a b : Tx) : Int := if lt a b = true then -1 else if a = b then 0 else 1
def cmL : List Tx → List Tx → Int
  | [], [] => 0
  | [], _ :: _ => -1
  | _ :: _, [] => 1
  | a :: x, b :: y => if cmT a b = 0 then cmL x y else cmT a b
theorem cmT_zero (a b : Tx) : cmT a b = 0 ↔ a = b := by
  unfold cmT
  constructor
  · intro h
    split at h
    · cases h
    · split at h
      · assumption
      · cases h
  · rintro rfl
    rw [lt_irrefl, if_neg (by decide), if_pos rfl]
theorem cmT_neg (a b : Tx) : cmT a b = -cmT b a := by
  unfold cmT
  rcases lt_tri a b with h | h | h
  · have k := lt_asymm h
    have e : b ≠ a := fun e => by subst e; rw [lt_irrefl] at h; cases h
    rw [if_pos h, k, if_neg (by decide), if_neg e]
  · subst h; rw [lt_irrefl]; simp
  · have k := lt_asymm h
    have e : a ≠ b := fun e => by subst e; rw [lt_irrefl] at h; cases h
    rw [if_pos h, k, if_neg (by decide), if_neg e]; rfl
theorem cmT_range (a b : Tx) : cmT a b = -1 ∨ cmT a b = 0 ∨ cmT a b = 1 := by
  unfold cmT
  split
  · simp
  · split <;> simp
theorem cmT_lt (a b : Tx) : cmT a b < 0 ↔ lt a b = true := by
  unfold cmT
  constructor
  · intro h
    split at h
    · assumption
    · split at h <;> omega
  · intro h; rw [if_pos h]; decide
theorem cmL_zero (x y : List Tx) : cmL x y = 0 ↔ x = y := by
  induction x generalizing y with
  | nil => cases y <;> simp [cmL]
  | cons a x ih =>
    cases y with
    | nil => simp [cmL]
    | cons b y =>
      rw [cmL]
      by_cases h : cmT a b = 0
      · rw [if_pos h, ih]
        rw [cmT_zero] at h
        simp [h]
      · rw [if_neg h]
        rw [cmT_zero] at h
        constructor
        · intro e; exact absurd ((cmT_zero a b).1 e) h
        · intro e; injection e with e1 e2; exact absurd e1 h
theorem cmL_neg (x y : List Tx) : cmL x y = -cmL y x := by
  induction x generalizing y with
  | nil => cases y <;> simp [cmL]
  | cons a x ih =>
    cases y with
    | nil => simp [cmL]
    | cons b y =>
      rw [cmL, cmL]
      have e := cmT_neg a b
      by_cases h : cmT a b = 0
      · rw [if_pos h, if_pos (by omega), ih]
      · rw [if_neg h, if_neg (by omega), e]
theorem cmL_range (x y : List Tx) : cmL x y = -1 ∨ cmL x y = 0 ∨ cmL x y = 1 := by
  induction x generalizing y with
  | nil => cases y <;> simp [cmL]
  | cons a x ih =>
    cases y with
    | nil => simp [cmL]
    | cons b y =>
      rw [cmL]
      split
      · exact ih y
      · exact cmT_range a b
theorem cmL_cons_lt (a b : Tx) (x y : List Tx) : cmL (a :: x) (b :: y) < 0 ↔ lt a b = true ∨ a = b ∧ cmL x y < 0 := by
  rw [cmL]
  by_cases h : cmT a b = 0
  · rw [if_pos h]
    rw [cmT_zero] at h
    subst h
    rw [lt_irrefl]; simp
  · rw [if_neg h, cmT_lt]
    rw [cmT_zero] at h
    simp [h]
theorem cmL_trans {x y z : List Tx} (h : cmL x y < 0) (k : cmL y z < 0) : cmL x z < 0 := by
  induction x generalizing y z with
  | nil => cases z with
    | nil => cases y <;> simp [cmL] at h k
    | cons c z => simp [cmL]
  | cons a x ih =>
    cases y with
    | nil => simp [cmL] at h
    | cons b y =>
      cases z with
      | nil => simp [cmL] at k
      | cons c z =>
        rw [cmL_cons_lt] at h k ⊢
        rcases h with h | ⟨rfl, h⟩
        · rcases k with k | ⟨rfl, k⟩
          · exact .inl (lt_trans h k)
          · exact .inl h
        · rcases k with k | ⟨rfl, k⟩
          · exact .inl k
          · exact .inr ⟨rfl, ih h k⟩
/-- a lies under b. -/
def und (a b : List Tx) : Bool := decide (b.length < a.length) && decide (a.take b.length = b)
theorem und_iff (a b : List Tx) : und a b = true ↔ ∃ c r, a = b ++ c :: r := by
  unfold und
  rw [Bool.and_eq_true, decide_eq_true_eq, decide_eq_true_eq]
  constructor
  · rintro ⟨h1, h2⟩
    have e := List.take_append_drop b.length a
    cases hd : a.drop b.length with
    | nil => have := congrArg List.length hd; simp at this; omega
    | cons c r => exact ⟨c, r, by rw [← e, h2, hd]⟩
  · rintro ⟨c, r, rfl⟩
    simp
theorem und_cm {a b : List Tx} (h : und a b = true) : cmL a b = 1 := by
  obtain ⟨c, r, rfl⟩ := (und_iff a b).1 h
  clear h
  induction b with
  | nil => rfl
  | cons x b ih => rw [List.cons_append, cmL, if_pos ((cmT_zero x x).2 rfl), ih]
theorem und_mid {x y z : List Tx} (h : und z x = true) (h1 : cmL x y < 0) (h2 : cmL y z < 0) : und y x = true := by
  obtain ⟨c, r, rfl⟩ := (und_iff z x).1 h
  clear h
  rw [und_iff]
  induction x generalizing y with
  | nil =>
    cases y with
    | nil => simp [cmL] at h1
    | cons b y => exact ⟨b, y, rfl⟩
  | cons a x ih =>
    cases y with
    | nil => simp [cmL] at h1
    | cons b y =>
      rw [List.cons_append] at h2
      rw [cmL_cons_lt] at h1 h2
      have e : a = b := by
        rcases h1 with h | ⟨h, _⟩
        · rcases h2 with k | ⟨k, _⟩
          · have := lt_asymm h; rw [k] at this; cases this
          · exact k.symm
        · exact h
      subst e
      rw [lt_irrefl] at h1 h2
      obtain ⟨c', r', e'⟩ := ih (y := y) (by simpa using h1) (by simpa using h2)
      exact ⟨c', r', by rw [e', List.cons_append]⟩
end Go.Proofs.YtcogkhcfpgelhaaGreat

namespace Go.Proofs.YtcogkhcfpgelhaaGreat
open Go.RowKit
set_option linter.unusedVariables false
/-! ### The document's file system -/
structure Mt where
  mode : Nat
  uid : Nat
  gid : Nat
  time : Int
  nano : Int
structure Nd where
  num : Int
  kind : Int
  mt : Mt
  data : List By
  tgt : Tx
  ents : List (Tx × Int)
structure Im where
  nodes : Int
  bytes : Int
  next : Int
  l : List Nd
structure Ac where
  op : Int
  dir : Int
  name : Tx
  node : Int
  too : Int
  other : Tx
  pl : Int
  n : Int
def nmOk (s : Tx) : Bool := decide (s ≠ []) && decide (s.length ≤ 255) && !decide ((0 : UInt8) ∈ s) && !decide ((47 : UInt8) ∈ s) && decide (s ≠ [46]) && decide (s ≠ [46, 46])
def tgOk (s : Tx) : Bool := decide (s ≠ []) && decide (s.length ≤ 4096) && !decide ((0 : UInt8) ∈ s)
def mtOk (m : Mt) : Bool := decide (m.mode ≤ 4095) && decide (0 ≤ m.nano) && decide (m.nano < 1000000000)
def get (l : List Nd) (n : Int) : Option Nd := l.find? (fun x => decide (x.num = n))
def entL (es : List (Tx × Int)) (s : Tx) : Option Int := (es.find? (fun e => decide (e.1 = s))).map (·.2)
def nameN (es : List (Tx × Int)) (n : Int) : Nat := (es.filter (fun e => decide (e.2 = n))).length
def lkS (l : List Nd) (n : Int) : Nat := (l.map (fun x => nameN x.ents n)).sum
def lks (l : List Nd) (n : Int) : Nat := lkS l n + if n = 1 then 1 else 0
def upF (l : List Nd) (n : Int) : Int := ((l.find? (fun x => x.ents.any (fun e => decide (e.2 = n)))).map (·.num)).getD 1
def heldF (l : List Nd) : Nat := (l.map (fun x => x.data.length)).sum
def insE (s : Tx) (n : Int) : List (Tx × Int) → List (Tx × Int)
  | [] => [(s, n)]
  | e :: r => if lt s e.1 then (s, n) :: e :: r else e :: insE s n r
def delE (s : Tx) (es : List (Tx × Int)) : List (Tx × Int) := es.filter (fun e => !decide (e.1 = s))
def updL (l : List Nd) (n : Int) (f : Nd → Nd) : List Nd := l.map (fun x => if x.num = n then f x else x)
def dropL (l : List Nd) (n : Int) : List Nd := l.filter (fun x => !decide (x.num = n))
/-- What an inode may be by itself. -/
def NdOk (x : Nd) : Prop := mtOk x.mt = true ∧ (x.kind = 1 ∧ x.data = [] ∧ x.tgt = [] ∨ x.kind = 2 ∧ x.data.length ≤ 4194304 ∧ x.tgt = [] ∧ x.ents = [] ∨ x.kind = 3 ∧ x.data = [] ∧ tgOk x.tgt = true ∧ x.ents = [])
/-- An image that can be. -/
structure WF (X : Im) : Prop where
  n1 : 1 ≤ X.nodes
  n2 : X.nodes ≤ 4096
  b1 : 0 ≤ X.bytes
  b2 : X.bytes ≤ 4194304
  x1 : 2 ≤ X.next
  x2 : X.next ≤ 1099511627776
  srt : X.l.Pairwise (fun a b => a.num < b.num)
  rt : ∃ r t, X.l = r :: t ∧ r.num = 1 ∧ r.kind = 1
  nums : ∀ x ∈ X.l, 1 ≤ x.num ∧ x.num < X.next
  len : (X.l.length : Int) ≤ X.nodes
  kinds : ∀ x ∈ X.l, NdOk x
  held : (heldF X.l : Int) ≤ X.bytes
  es : ∀ x ∈ X.l, ∀ e ∈ x.ents, nmOk e.1 = true ∧ e.2 ≠ 1 ∧ ∃ y ∈ X.l, y.num = e.2
  esrt : ∀ x ∈ X.l, x.ents.Pairwise (fun a b => lt a.1 b.1 = true)
  lk1 : ∀ x ∈ X.l, 1 ≤ lks X.l x.num
  lkd : ∀ x ∈ X.l, x.kind = 1 → lks X.l x.num = 1
  rk : ∃ rk : Int → Nat, ∀ x ∈ X.l, ∀ e ∈ x.ents, ∀ y ∈ X.l, y.num = e.2 → y.kind = 1 → rk x.num < rk y.num
/-! ### Looking up -/
theorem get_some {l : List Nd} {n : Int} {x : Nd} (h : get l n = some x) : x ∈ l ∧ x.num = n := by
  unfold get at h
  have h2 := List.find?_some h
  exact ⟨List.mem_of_find?_eq_some h, by simpa using h2⟩
theorem get_none {l : List Nd} {n : Int} : get l n = none ↔ ∀ x ∈ l, x.num ≠ n := by
  unfold get
  rw [List.find?_eq_none]
  simp
theorem get_mem {l : List Nd} (h : l.Pairwise (fun a b => a.num < b.num)) {x : Nd} (hx : x ∈ l) : get l x.num = some x := by
  induction l with
  | nil => simp at hx
  | cons y r ih =>
    rw [List.pairwise_cons] at h
    unfold get
    rw [List.find?_cons]
    rcases List.mem_cons.1 hx with rfl | hx
    · simp
    · have := h.1 x hx
      rw [decide_eq_false (by omega)]
      exact ih h.2 hx
theorem WF.get {X : Im} (h : WF X) {x : Nd} (hx : x ∈ X.l) : get X.l x.num = some x := get_mem h.srt hx
theorem WF.uniq {X : Im} (h : WF X) {x y : Nd} (hx : x ∈ X.l) (hy : y ∈ X.l) (e : x.num = y.num) : x = y := by
  have h1 := h.get hx
  have h2 := h.get hy
  rw [e, h2] at h1
  injection h1 with h1
  exact h1.symm
theorem get_updL (l : List Nd) (n k : Int) (f : Nd → Nd) (hf : ∀ x, (f x).num = x.num) : get (updL l n f) k = if k = n then (get l k).map f else get l k := by
  induction l with
  | nil => simp [get, updL]
  | cons x r ih =>
    unfold get updL at *
    rw [List.map_cons, List.find?_cons, List.find?_cons]
    by_cases hx : x.num = n
    · simp only [hx, if_true, hf]
      by_cases hk : n = k
      · subst hk; simp
      · rw [decide_eq_false hk]
        simp only
        rw [ih]
    · simp only [hx, if_false]
      by_cases hk : x.num = k
      · rw [decide_eq_true hk]
        simp only
        rw [if_neg (fun e => hx (hk.trans e))]
      · rw [decide_eq_false hk]
        simp only
        rw [ih]
theorem get_append (l m : List Nd) (k : Int) : get (l ++ m) k = (get l k).or (get m k) := by
  unfold get
  rw [List.find?_append]
theorem get_dropL (l : List Nd) (n k : Int) : get (dropL l n) k = if k = n then none else get l k := by
  induction l with
  | nil => simp [get, dropL]
  | cons x r ih =>
    unfold get dropL at *
    rw [List.filter_cons]
    by_cases hx : x.num = n
    · simp only [hx, decide_true, Bool.not_true, Bool.false_eq_true, if_false]
      rw [ih, List.find?_cons]
      by_cases hk : k = n
      · rw [if_pos hk, if_pos hk]
      · rw [if_neg hk, if_neg hk, decide_eq_false (fun e => hk (by rw [← e, hx]))]
    · simp only [hx, decide_false, Bool.not_false, if_true]
      rw [List.find?_cons, List.find?_cons, ih]
      by_cases hk : x.num = k
      · rw [decide_eq_true hk]
        simp only
        rw [if_neg (fun e => hx (hk.trans e))]
      · rw [decide_eq_false hk]
theorem entL_insE (es : List (Tx × Int)) (s : Tx) (n : Int) (h : entL es s = none) (k : Tx) : entL (insE s n es) k = if k = s then some n else entL es k := by
  induction es with
  | nil =>
    unfold insE entL
    rw [List.find?_cons]
    by_cases hk : k = s
    · rw [if_pos hk, decide_eq_true hk.symm]; rfl
    · rw [if_neg hk, decide_eq_false (fun e => hk e.symm)]
  | cons e r ih =>
    have hne : e.1 ≠ s := by
      intro he
      unfold entL at h
      rw [List.find?_cons, decide_eq_true he] at h
      cases h
    have hr : entL r s = none := by
      unfold entL at h ⊢
      rw [List.find?_cons, decide_eq_false hne] at h
      exact h
    unfold insE
    split
    · unfold entL
      rw [List.find?_cons]
      by_cases hk : k = s
      · rw [if_pos hk, decide_eq_true hk.symm]; rfl
      · rw [if_neg hk, decide_eq_false (fun e => hk e.symm)]
    · have ih := ih hr
      unfold entL at ih ⊢
      rw [List.find?_cons, List.find?_cons]
      by_cases hk : e.1 = k
      · rw [decide_eq_true hk]
        simp only
        rw [if_neg (fun e' => hne (hk.trans e'))]
      · rw [decide_eq_false hk]
        exact ih
theorem insE_length (es : List (Tx × Int)) (s : Tx) (n : Int) : (insE s n es).length = es.length + 1 := by
  induction es with
  | nil => rfl
  | cons e r ih =>
    unfold insE
    split
    · rfl
    · rw [List.length_cons, ih]; rfl
theorem mem_insE {es : List (Tx × Int)} {s : Tx} {n : Int} {e : Tx × Int} : e ∈ insE s n es ↔ e = (s, n) ∨ e ∈ es := by
  induction es with
  | nil => simp [insE]
  | cons x r ih =>
    unfold insE
    split
    · simp
    · rw [List.mem_cons, ih, List.mem_cons]
      constructor
      · rintro (h | h | h)
        · exact .inr (.inl h)
        · exact .inl h
        · exact .inr (.inr h)
      · rintro (h | h | h)
        · exact .inr (.inl h)
        · exact .inl h
        · exact .inr (.inr h)
theorem nameN_insE (es : List (Tx × Int)) (s : Tx) (n k : Int) : nameN (insE s n es) k = nameN es k + if n = k then 1 else 0 := by
  induction es with
  | nil =>
    unfold insE nameN
    by_cases h : n = k <;> simp [h]
  | cons e r ih =>
    unfold insE
    split
    · unfold nameN
      rw [List.filter_cons]
      by_cases h : n = k
      · simp [h]
      · simp [h]
    · unfold nameN at *
      rw [List.filter_cons, List.filter_cons]
      by_cases h : e.2 = k
      · simp only [h, decide_true, if_true, List.length_cons]
        rw [ih]; omega
      · simp only [h, decide_false, Bool.false_eq_true, if_false]
        exact ih
theorem insE_sorted {es : List (Tx × Int)} (h : es.Pairwise (fun a b => lt a.1 b.1 = true)) {s : Tx} (hs : entL es s = none) (n : Int) : (insE s n es).Pairwise (fun a b => lt a.1 b.1 = true) := by
  induction es with
  | nil => simp [insE]
  | cons e r ih =>
    rw [List.pairwise_cons] at h
    have hne : e.1 ≠ s := by
      intro he
      unfold entL at hs
      rw [List.find?_cons, decide_eq_true he] at hs
      cases hs
    have hr : entL r s = none := by
      unfold entL at hs ⊢
      rw [List.find?_cons, decide_eq_false hne] at hs
      exact hs
    unfold insE
    split
    · rename_i hlt
      refine List.pairwise_cons.2 ⟨fun x hx => ?_, List.pairwise_cons.2 ⟨h.1, h.2⟩⟩
      rcases List.mem_cons.1 hx with rfl | hx
      · exact hlt
      · exact lt_trans hlt (h.1 x hx)
    · rename_i hlt
      have hle : lt e.1 s = true := by
        rcases lt_tri e.1 s with h1 | h1 | h1
        · exact h1
        · exact absurd h1 hne
        · exact absurd h1 hlt
      refine List.pairwise_cons.2 ⟨fun x hx => ?_, ih h.2 hr⟩
      rcases mem_insE.1 hx with rfl | hx
      · exact hle
      · exact h.1 x hx
theorem entL_some {es : List (Tx × Int)} {s : Tx} {n : Int} (h : entL es s = some n) : (s, n) ∈ es := by
  unfold entL at h
  cases hf : es.find? (fun e => decide (e.1 = s)) with
  | none => rw [hf] at h; cases h
  | some e =>
    rw [hf] at h
    simp only [Option.map_some, Option.some.injEq] at h
    have h1 := List.mem_of_find?_eq_some hf
    have h2 := List.find?_some hf
    simp only [decide_eq_true_eq] at h2
    rw [← h, ← h2]; exact h1
theorem entL_none {es : List (Tx × Int)} {s : Tx} : entL es s = none ↔ ∀ e ∈ es, e.1 ≠ s := by
  unfold entL
  rw [Option.map_eq_none_iff, List.find?_eq_none]
  simp
theorem entL_mem {es : List (Tx × Int)} (h : es.Pairwise (fun a b => lt a.1 b.1 = true)) {e : Tx × Int} (he : e ∈ es) : entL es e.1 = some e.2 := by
  induction es with
  | nil => simp at he
  | cons y r ih =>
    rw [List.pairwise_cons] at h
    unfold entL
    rw [List.find?_cons]
    rcases List.mem_cons.1 he with rfl | he
    · simp
    · have := h.1 e he
      rw [decide_eq_false (fun e' => by rw [e', lt_irrefl] at this; cases this)]
      exact ih h.2 he
theorem entL_delE (es : List (Tx × Int)) (s k : Tx) : entL (delE s es) k = if k = s then none else entL es k := by
  induction es with
  | nil => simp [entL, delE]
  | cons e r ih =>
    unfold entL delE at *
    rw [List.filter_cons]
    by_cases hx : e.1 = s
    · simp only [hx, decide_true, Bool.not_true, Bool.false_eq_true, if_false]
      rw [ih, List.find?_cons]
      by_cases hk : k = s
      · rw [if_pos hk, if_pos hk]
      · rw [if_neg hk, if_neg hk, decide_eq_false (fun e' => hk (by rw [← e', hx]))]
    · simp only [hx, decide_false, Bool.not_false, if_true]
      rw [List.find?_cons, List.find?_cons]
      by_cases hk : e.1 = k
      · rw [decide_eq_true hk]
        simp only
        rw [if_neg (fun e' => hx (hk.trans e'))]
      · rw [decide_eq_false hk]
        exact ih
theorem delE_length {es : List (Tx × Int)} (h : es.Pairwise (fun a b => lt a.1 b.1 = true)) (s : Tx) : (delE s es).length + (if (entL es s).isSome then 1 else 0) = es.length := by
  induction es with
  | nil => simp [entL, delE]
  | cons e r ih =>
    rw [List.pairwise_cons] at h
    have ih := ih h.2
    unfold delE entL at *
    rw [List.filter_cons, List.find?_cons]
    by_cases hx : e.1 = s
    · simp only [hx, decide_true, Bool.not_true, Bool.false_eq_true, if_false]
      have hn : r.find? (fun e => decide (e.1 = s)) = none := by
        rw [List.find?_eq_none]
        intro x hx2
        have := h.1 x hx2
        simp only [decide_eq_true_eq]
        intro e'
        rw [hx, e', lt_irrefl] at this; cases this
      rw [hn] at ih
      simp at ih ⊢
      exact ih
    · simp only [hx, decide_false, Bool.not_false, if_true, List.length_cons]
      omega
theorem nameN_delE {es : List (Tx × Int)} (h : es.Pairwise (fun a b => lt a.1 b.1 = true)) (s : Tx) (k : Int) : nameN (delE s es) k + (if entL es s = some k then 1 else 0) = nameN es k := by
  induction es with
  | nil => simp [entL, delE, nameN]
  | cons e r ih =>
    rw [List.pairwise_cons] at h
    have ih := ih h.2
    unfold delE entL nameN at *
    rw [List.filter_cons, List.find?_cons]
    by_cases hx : e.1 = s
    · simp only [hx, decide_true, Bool.not_true, Bool.false_eq_true, if_false, Option.map_some, Option.some.injEq]
      have hn : r.find? (fun e => decide (e.1 = s)) = none := by
        rw [List.find?_eq_none]
        intro x hx2
        have := h.1 x hx2
        simp only [decide_eq_true_eq]
        intro e'
        rw [hx, e', lt_irrefl] at this; cases this
      rw [hn] at ih
      rw [List.filter_cons]
      by_cases hk : e.2 = k
      · simp [hk] at ih ⊢
        exact ih
      · simp [hk] at ih ⊢
        exact ih
    · simp only [hx, decide_false, Bool.not_false, if_true]
      rw [List.filter_cons, List.filter_cons]
      by_cases hk : e.2 = k
      · simp only [hk, decide_true, if_true, List.length_cons]
        omega
      · simp only [hk, decide_false, Bool.false_eq_true, if_false]
        exact ih
theorem delE_sorted {es : List (Tx × Int)} (h : es.Pairwise (fun a b => lt a.1 b.1 = true)) (s : Tx) : (delE s es).Pairwise (fun a b => lt a.1 b.1 = true) := h.filter _
theorem mem_delE {es : List (Tx × Int)} {s : Tx} {e : Tx × Int} (h : e ∈ delE s es) : e ∈ es ∧ e.1 ≠ s := by
  unfold delE at h
  rw [List.mem_filter] at h
  exact ⟨h.1, by simpa using h.2⟩
end Go.Proofs.YtcogkhcfpgelhaaGreat

import Derived.Test.YtoplhkpbicgceaaLzA
namespace Go.Proofs.Ytoplhkpbicgceaa
open Go.RowKit
set_option linter.unusedVariables false
/-! ### Names as lists of bytes -/
abbrev Tx := List UInt8
/-- What stands between slashes. -/
def pcs : Tx → List Tx
  | [] => [[]]
  | c :: r => if c = 47 then [] :: pcs r else match pcs r with
    | [] => [[c]]
    | p :: ps => (c :: p) :: ps
theorem pcs_ne (l : Tx) : pcs l ≠ [] := by
  cases l with
  | nil => simp [pcs]
  | cons c r =>
    rw [pcs]
    split
    · simp
    · split <;> simp
theorem pcs_cons {l : Tx} : ∃ p ps, pcs l = p :: ps := by
  cases h : pcs l with
  | nil => exact absurd h (pcs_ne l)
  | cons p ps => exact ⟨p, ps, rfl⟩
theorem pcs_none (l : Tx) (h : (47 : UInt8) ∉ l) : pcs l = [l] := by
  induction l with
  | nil => rfl
  | cons c r ih =>
    rw [List.mem_cons, not_or] at h
    rw [pcs, if_neg (fun e => h.1 e.symm), ih h.2]
theorem pcs_at (p r : Tx) (h : (47 : UInt8) ∉ p) : pcs (p ++ 47 :: r) = p :: pcs r := by
  induction p with
  | nil => simp [pcs]
  | cons c q ih =>
    rw [List.mem_cons, not_or] at h
    rw [List.cons_append, pcs, if_neg (fun e => h.1 e.symm), ih h.2]
/-- A piece has no slash. -/
theorem pcs_noslash (l : Tx) : ∀ p ∈ pcs l, (47 : UInt8) ∉ p := by
  induction l with
  | nil => intro p hp; simp [pcs] at hp; subst hp; simp
  | cons c r ih =>
    intro p hp
    rw [pcs] at hp
    split at hp
    · rcases List.mem_cons.1 hp with rfl | hp
      · simp
      · exact ih p hp
    · rename_i hc
      obtain ⟨q, qs, e⟩ := pcs_cons (l := r)
      rw [e] at hp ih
      rcases List.mem_cons.1 hp with rfl | hp
      · rw [List.mem_cons, not_or]
        exact ⟨fun e => hc e.symm, ih q (by simp)⟩
      · exact ih p (by simp [hp])
theorem pcs_sub (l : Tx) : ∀ p ∈ pcs l, ∀ c ∈ p, c ∈ l := by
  induction l with
  | nil => intro p hp; simp [pcs] at hp; subst hp; simp
  | cons c r ih =>
    intro p hp x hx
    rw [pcs] at hp
    split at hp
    · rcases List.mem_cons.1 hp with rfl | hp
      · simp at hx
      · exact List.mem_cons_of_mem _ (ih p hp x hx)
    · obtain ⟨q, qs, e⟩ := pcs_cons (l := r)
      rw [e] at hp ih
      rcases List.mem_cons.1 hp with rfl | hp
      · rcases List.mem_cons.1 hx with rfl | hx
        · simp
        · exact List.mem_cons_of_mem _ (ih q (by simp) x hx)
      · exact List.mem_cons_of_mem _ (ih p (by simp [hp]) x hx)
/-- How long pieces are, with a sign behind each. -/
def tot : List Tx → Nat
  | [] => 0
  | p :: ps => p.length + 1 + tot ps
theorem pcs_tot (l : Tx) : tot (pcs l) = l.length + 1 := by
  induction l with
  | nil => rfl
  | cons c r ih =>
    rw [pcs]
    split
    · rw [tot, ih]; simp; omega
    · obtain ⟨q, qs, e⟩ := pcs_cons (l := r)
      rw [e] at ih ⊢
      simp only [tot, List.length_cons] at ih ⊢
      omega
theorem tot_filter (f : Tx → Bool) (ps : List Tx) : tot (ps.filter f) ≤ tot ps := by
  induction ps with
  | nil => simp [tot]
  | cons p r ih =>
    rw [List.filter_cons]
    split
    · simp only [tot]; omega
    · simp only [tot]; omega
theorem tot_len (ps : List Tx) : ps.length ≤ tot ps := by
  induction ps with
  | nil => simp
  | cons p r ih => simp only [tot, List.length_cons]; omega
theorem pcs_len (l : Tx) : (pcs l).length ≤ l.length + 1 := by
  have := tot_len (pcs l)
  rw [pcs_tot] at this; exact this
/-- With a slash between each two. -/
def jn : List Tx → Tx
  | [] => []
  | [p] => p
  | p :: q :: r => p ++ 47 :: jn (q :: r)
theorem jn_length (p : Tx) (r : List Tx) : (jn (p :: r)).length + 1 = tot (p :: r) := by
  induction r generalizing p with
  | nil => simp [jn, tot]
  | cons q r ih =>
    have := ih q
    simp only [jn, List.length_append, List.length_cons] at this ⊢
    rw [tot]
    omega
theorem pcs_jn (p : Tx) (r : List Tx) (h : ∀ x ∈ p :: r, (47 : UInt8) ∉ x) : pcs (jn (p :: r)) = p :: r := by
  induction r generalizing p with
  | nil => exact pcs_none p (h p (by simp))
  | cons q r ih =>
    rw [jn, pcs_at _ _ (h p (by simp)), ih q (fun x hx => h x (by simp only [List.mem_cons] at hx ⊢; rcases hx with h | h <;> simp [h]))]
/-- A piece that leads nowhere else. -/
def stays (p : Tx) : Bool := p == [] || p == [46]
def cps (l : Tx) : List Tx := (pcs l).filter (fun p => !stays p)
theorem cps_mem {l p : Tx} (h : p ∈ cps l) : p ∈ pcs l ∧ stays p = false := by
  unfold cps at h
  rw [List.mem_filter] at h
  exact ⟨h.1, by simpa using h.2⟩
theorem cps_tot (l : Tx) : tot (cps l) ≤ l.length + 1 := by
  have := tot_filter (fun p => !stays p) (pcs l)
  rw [pcs_tot] at this
  exact this
/-- What is wrong with a component: 0 if nothing. -/
def ptF (p : Tx) : Nat := if stays p then 90 else if p = [46, 46] then 92 else if (0 : UInt8) ∈ p then 93 else if (47 : UInt8) ∈ p then 91 else if 255 < p.length then 94 else 0
def ptsF : List Tx → Nat
  | [] => 0
  | p :: r => if ptF p = 0 then ptsF r else ptF p
/-- Why parts can't be a name. -/
def ftF (ps : List Tx) : Nat := if ps = [] then 90 else if ptsF ps = 0 then (if 256 < ps.length then 95 else if 4096 + 1 < tot ps then 2 else 0) else ptsF ps
def joinF (ps : List Tx) : Tx × Nat := if ftF ps = 0 then (jn ps, 0) else ([], ftF ps)
def splE (l : Tx) : Nat := if 4096 < l.length then 2 else if (0 : UInt8) ∈ l then 93 else if l.head? = some 47 then 91 else if ([46, 46] : Tx) ∈ pcs l then 92 else if cps l = [] then 90 else if ∃ p ∈ cps l, 255 < p.length then 94 else if 256 < (cps l).length then 95 else 0
def splF (l : Tx) : List Tx × Nat := if splE l = 0 then (cps l, 0) else ([], splE l)
def clnF (l : Tx) : Tx × Nat := if splE l = 0 then joinF (cps l) else ([], splE l)
theorem ptsF_zero (ps : List Tx) : ptsF ps = 0 ↔ ∀ p ∈ ps, ptF p = 0 := by
  induction ps with
  | nil => simp [ptsF]
  | cons p r ih =>
    rw [ptsF]
    split
    · rename_i h; rw [ih]; simp [h]
    · rename_i h; simp [h]
theorem ptF_zero (p : Tx) : ptF p = 0 ↔ stays p = false ∧ p ≠ [46, 46] ∧ (0 : UInt8) ∉ p ∧ (47 : UInt8) ∉ p ∧ p.length ≤ 255 := by
  unfold ptF
  repeat' split
  all_goals simp_all
theorem splE_zero (l : Tx) : splE l = 0 ↔ l.length ≤ 4096 ∧ (0 : UInt8) ∉ l ∧ l.head? ≠ some 47 ∧ ([46, 46] : Tx) ∉ pcs l ∧ cps l ≠ [] ∧ (∀ p ∈ cps l, p.length ≤ 255) ∧ (cps l).length ≤ 256 := by
  unfold splE
  constructor
  · intro h
    repeat' split at h
    all_goals first | (cases h; done) | skip
    rename_i a1 a2 a3 a4 a5 a6 a7
    exact ⟨by omega, a2, a3, a4, a5, fun p hp => Nat.le_of_not_lt (fun hl => a6 ⟨p, hp, hl⟩), by omega⟩
  · rintro ⟨h1, h2, h3, h4, h5, h6, h7⟩
    rw [if_neg (by omega), if_neg h2, if_neg h3, if_neg h4, if_neg h5, if_neg (fun ⟨p, hp, hl⟩ => by have := h6 p hp; omega), if_neg (by omega)]
/-- What Split takes can be a name. -/
theorem spl_parts {l : Tx} (h : splE l = 0) : ∀ p ∈ cps l, ptF p = 0 := by
  rw [splE_zero] at h
  obtain ⟨h1, h2, h3, h4, h5, h6, h7⟩ := h
  intro p hp
  obtain ⟨hm, hs⟩ := cps_mem hp
  rw [ptF_zero]
  exact ⟨hs, fun e => h4 (e ▸ hm), fun e => h2 (pcs_sub l p hm 0 e), pcs_noslash l p hm, h6 p hp⟩
theorem spl_ft {l : Tx} (h : splE l = 0) : ftF (cps l) = 0 := by
  have hp := spl_parts h
  rw [splE_zero] at h
  obtain ⟨h1, h2, h3, h4, h5, h6, h7⟩ := h
  have ht := cps_tot l
  unfold ftF
  rw [if_neg h5, if_pos ((ptsF_zero _).2 hp), if_neg (by omega), if_neg (by omega)]
theorem ft_zero (ps : List Tx) : ftF ps = 0 ↔ ps ≠ [] ∧ (∀ p ∈ ps, ptF p = 0) ∧ ps.length ≤ 256 ∧ tot ps ≤ 4097 := by
  unfold ftF
  rw [← ptsF_zero]
  constructor
  · intro h
    split at h
    · cases h
    rename_i a1
    split at h
    · rename_i a2
      split at h
      · cases h
      split at h
      · cases h
      exact ⟨a1, a2, by omega, by omega⟩
    · rename_i a2; exact absurd h a2
  · rintro ⟨h1, h2, h3, h4⟩
    rw [if_neg h1, if_pos h2, if_neg (by omega), if_neg (by omega)]
/-- What can be a name is one, and its components are the parts. -/
theorem jn_pcs {ps : List Tx} (h : ftF ps = 0) : pcs (jn ps) = ps := by
  rw [ft_zero] at h
  obtain ⟨h1, h2, h3, h4⟩ := h
  cases ps with
  | nil => exact absurd rfl h1
  | cons p r => exact pcs_jn p r (fun x hx => ((ptF_zero x).1 (h2 x hx)).2.2.2.1)
theorem jn_cps {ps : List Tx} (h : ftF ps = 0) : cps (jn ps) = ps := by
  unfold cps
  rw [jn_pcs h]
  rw [ft_zero] at h
  rw [List.filter_eq_self]
  intro p hp
  rw [((ptF_zero p).1 (h.2.1 p hp)).1]; rfl
theorem jn_mem (ps : List Tx) (c : UInt8) (h : c ∈ jn ps) : c = 47 ∨ ∃ p ∈ ps, c ∈ p := by
  induction ps with
  | nil => simp [jn] at h
  | cons p r ih =>
    cases r with
    | nil => exact .inr ⟨p, by simp, h⟩
    | cons q r =>
      rw [jn, List.mem_append, List.mem_cons] at h
      rcases h with h | h | h
      · exact .inr ⟨p, by simp, h⟩
      · exact .inl h
      · rcases ih h with h | ⟨x, h1, h2⟩
        · exact .inl h
        · exact .inr ⟨x, by simp [List.mem_cons.1 h1], h2⟩
theorem jn_head {ps : List Tx} (h : ftF ps = 0) : (jn ps).head? ≠ some 47 ∧ jn ps ≠ [] := by
  rw [ft_zero] at h
  obtain ⟨h1, h2, h3, h4⟩ := h
  cases ps with
  | nil => exact absurd rfl h1
  | cons p r =>
    have hp := (ptF_zero p).1 (h2 p (by simp))
    cases p with
    | nil => simp [stays] at hp
    | cons c q =>
      have hc : c ≠ 47 := fun e => hp.2.2.2.1 (by simp [e])
      cases r with
      | nil => simp [jn, hc]
      | cons x r => simp [jn, hc]
theorem jn_split {ps : List Tx} (h : ftF ps = 0) : splE (jn ps) = 0 := by
  have e1 := jn_pcs h
  have e2 := jn_cps h
  have e3 := jn_head h
  have hz := (ft_zero ps).1 h
  obtain ⟨h1, h2, h3, h4⟩ := hz
  rw [splE_zero, e1, e2]
  refine ⟨?_, ?_, e3.1, ?_, h1, fun p hp => ((ptF_zero p).1 (h2 p hp)).2.2.2.2, h3⟩
  · cases ps with
    | nil => exact absurd rfl h1
    | cons p r => have := jn_length p r; omega
  · intro h0
    rcases jn_mem ps 0 h0 with e | ⟨p, hp, h0⟩
    · exact absurd e (by decide)
    · exact ((ptF_zero p).1 (h2 p hp)).2.2.1 h0
  · intro hm
    exact ((ptF_zero _).1 (h2 _ hm)).2.1 rfl
/-- Gone through piece by piece: whether the top is left. -/
def lvP : Nat → List Tx → Bool
  | _, [] => false
  | d, p :: r => if stays p then lvP d r else if p = [46, 46] then (if d = 0 then true else lvP (d - 1) r) else lvP (d + 1) r
def lvF (d : Nat) (l : Tx) : Bool := decide (l.head? = some 47) || lvP d (pcs l)
theorem lvP_safe (ps : List Tx) (h : ∀ p ∈ ps, p ≠ [46, 46]) (d : Nat) : lvP d ps = false := by
  induction ps generalizing d with
  | nil => rfl
  | cons p r ih =>
    have hr := fun d => ih (fun x hx => h x (by simp [hx])) d
    rw [lvP, if_neg (h p (by simp))]
    split <;> exact hr _
theorem lv_safe {ps : List Tx} (h : ftF ps = 0) (d : Nat) : lvF d (jn ps) = false := by
  unfold lvF
  rw [jn_pcs h, decide_eq_false (jn_head h).1]
  rw [lvP_safe ps (fun p hp => ((ptF_zero p).1 (((ft_zero ps).1 h).2.1 p hp)).2.1)]
  rfl
theorem jn_inj {ps qs : List Tx} (hp : ftF ps = 0) (hq : ftF qs = 0) (h : jn ps = jn qs) : ps = qs := by
  rw [← jn_pcs hp, ← jn_pcs hq, h]
/-- Clean is Join of Split's, and Clean again is the same. -/
theorem cln_ok {l : Tx} (h : splE l = 0) : clnF l = (jn (cps l), 0) := by
  unfold clnF joinF
  rw [if_pos h, if_pos (spl_ft h)]
theorem cln_bad {l : Tx} (h : splE l ≠ 0) : clnF l = ([], splE l) := by
  unfold clnF
  rw [if_neg h]
end Go.Proofs.Ytoplhkpbicgceaa

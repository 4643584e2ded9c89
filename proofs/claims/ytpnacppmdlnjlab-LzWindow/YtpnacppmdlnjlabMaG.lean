import Derived.Test.YtpnacppmdlnjlabMaF
namespace Go.Proofs.Ytpnacppmdlnjlab
open Go.RowKit
set_option linter.unusedVariables false
def encP (s : Si) : List By := if s.b = 0 then encL s.p else encS ⟨s.p, s.b.toNat, s.n.toNat⟩
def mkI (l : List Si) : List By := l.flatMap encP
def okI (s : Si) : Prop := (s.b = 0 ∧ s.n = 0) ∨ canI s
theorem CanB.ok {l : List Si} (h : CanB l) (s : Si) (hs : s ∈ l) : okI s := by
  obtain ⟨i, hi, rfl⟩ := List.mem_iff_getElem.1 hs
  by_cases h2 : i + 1 < l.length
  · exact .inr (h.2.1 i h2)
  · have hl := h.2.2 (by omega)
    have e : l.length - 1 = i := by omega
    simp only [e] at hl
    exact .inl hl
theorem ext_le (n : Nat) : (ext n).length ≤ n + 1 := by unfold ext numb; split <;> simp; omega
theorem encP_le (s : Si) (h : okI s) : (encP s).length ≤ 3 * (s.p.length + s.n.toNat) + 2 := by
  have h1 := ext_le s.p.length
  have h2 := ext_le (s.n.toNat - 4)
  unfold encP
  rcases h with ⟨hb, hn⟩ | ⟨hb, _, hn⟩
  · rw [if_pos hb]
    unfold encL
    simp only [List.length_cons, List.length_append]
    omega
  · rw [if_neg (by omega)]
    unfold encS
    simp only [List.length_cons, List.length_append]
    omega
theorem mkI_take (l : List Si) (I : Nat) (h : I < l.length) : mkI (l.take (I + 1)) = mkI (l.take I) ++ encP l[I] := by
  unfold mkI
  rw [← List.take_append_getElem h, List.flatMap_append]
  simp
/-- All but the last take four bytes and more. -/
theorem CanB.count {l : List Si} (h : CanB l) (I : Nat) (hI : I ≤ l.length) : 4 * I ≤ tot (l.take I) + 4 := by
  induction I with
  | zero => omega
  | succ I ih =>
    have hlt : I < l.length := by omega
    have := ih (by omega)
    rw [tot_step l I hlt]
    by_cases h2 : I + 1 < l.length
    · have := (h.2.1 I h2).2.2; omega
    · cases I with
      | zero => omega
      | succ J =>
        have hJ := ih (by omega)
        rw [tot_step l J (by omega)] at hJ ⊢
        have := (h.2.1 J (by omega)).2.2
        have e : ∀ m, m ≤ J → 4 * m ≤ tot (l.take m) := fun m => by
          induction m with
          | zero => intro _; omega
          | succ m ihm =>
            intro hm
            have := ihm (by omega)
            rw [tot_step l m (by omega)]
            have := (h.2.1 m (by omega)).2.2
            omega
        have := e J (Nat.le_refl _)
        omega
theorem mkI_le {l : List Si} (h : CanB l) (I : Nat) (hI : I ≤ l.length) : (mkI (l.take I)).length ≤ 3 * tot (l.take I) + 2 * I := by
  induction I with
  | zero => simp [mkI]
  | succ I ih =>
    have hlt : I < l.length := by omega
    have := ih (by omega)
    have := encP_le l[I] (h.ok _ (List.getElem_mem hlt))
    rw [mkI_take l I hlt, tot_step l I hlt, List.length_append]
    omega
theorem put_any (K : Nat → Prop) (w : World) (hK : ∀ k, K k → k < w.heap.size) (v : Value) (b : List By) (hb : Mine K v b w) (vp : Value) (s : Si) (hp : Sl (fun k => ¬ K k) vp s.p w) (hpl : s.p.length ≤ 10000000) (hnl : s.n ≤ 10000000) (hok : okI s) (hs : b.length ≤ 100000000) :
    Calls Try.prog 18 #[v, .agg #[vp, .int .i64 s.b, .int .i64 s.n]] w fun e w' => ∃ v', e = .returned v' ∧ Mine K v' (b ++ encP s) w' ∧ Fr (fun k => ¬ K k) w w' := by
  unfold encP
  rcases hok with ⟨h1, h2⟩ | ⟨h1, h2, h3⟩
  · rw [if_pos h1, h1, h2]
    exact put_last K w hK v b hb vp s.p hp hpl hs
  · rw [if_neg (by omega)]
    have := put_match K w hK v b hb vp s.p hp hpl s.b.toNat s.n.toNat (by omega) (by omega) (by omega) (by omega) hs
    rw [Int.toNat_of_nonneg (by omega), Int.toNat_of_nonneg (by omega)] at this
    exact this
open Classical in
/-- What Make answers. -/
noncomputable def mkR (l : List Si) : List By × Nat := if CanB l then (if tot l ≤ 4194304 then (mkI l, 0) else ([], 2)) else ([], 1)
theorem mkR_arg {l : List Si} (h : ¬ CanB l) : mkR l = ([], 1) := by unfold mkR; rw [if_neg h]
theorem mkR_long {l : List Si} (h : CanB l) (h2 : ¬ tot l ≤ 4194304) : mkR l = ([], 2) := by unfold mkR; rw [if_pos h, if_neg h2]
theorem mkR_ok {l : List Si} (h : CanB l) (h2 : tot l ≤ 4194304) : mkR l = (mkI l, 0) := by unfold mkR; rw [if_pos h, if_pos h2]
def Makd (r : List By × Nat) (w : World) (e : Ending) (w' : World) : Prop := ∃ a c, e = .returned (.tuple #[.slice a r.1.length c, .int .i64 r.2]) ∧ Mine (fun k => k < w.heap.size) (.slice a r.1.length c) r.1 w' ∧ Nw w w'
theorem Makd.none {y : Nat} {w w' : World} (h : Nw w w') : Makd ([], y) w (.returned (.tuple #[.slice none 0 0, .int .i64 y])) w' := ⟨_, _, rfl, .inl ⟨rfl, rfl⟩, h⟩
theorem nw_of {w w' : World} (h : Fr (fun k => ¬ k < w.heap.size) w w') : Nw w w' := h.mono (fun k hk => .inr (by omega))
abbrev OldS (w : World) (v : Value) (l : List Si) : Prop := SqR (fun k => w.heap.size ≤ k) v l w
end Go.Proofs.Ytpnacppmdlnjlab

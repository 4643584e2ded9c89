import Derived.Test.YtcogkhcfpgelhabGreatVfB
import Derived.Maps.RangeWalk
namespace Go.Proofs.YtcogkhcfpgelhabGreat
open Go.RowKit Go.ChangeMaps Go.MapKept
set_option linter.unusedVariables false
set_option maxRecDepth 100000
/-! ### Going through a map -/
theorem cover {α : Type} [DecidableEq α] : ∀ (l1 l2 : List α), l1.Nodup → (∀ x ∈ l1, x ∈ l2) → l2.length ≤ l1.length → ∀ x ∈ l2, x ∈ l1
  | [], l2, _, _, h, x, hx => by
    have : l2 = [] := List.eq_nil_of_length_eq_zero (by simpa using h)
    rw [this] at hx; cases hx
  | a :: t, l2, hn, hs, h, x, hx => by
    have ha : a ∈ l2 := hs a (by simp)
    obtain ⟨hat, hn⟩ := List.nodup_cons.1 hn
    by_cases hxa : x = a
    · rw [hxa]; simp
    · refine List.mem_cons_of_mem _ (cover t (l2.erase a) hn (fun y hy => ?_) ?_ x ?_)
      · exact (List.mem_erase_of_ne (by rintro rfl; exact hat hy)).2 (hs y (List.mem_cons_of_mem _ hy))
      · rw [List.length_erase_of_mem ha]; simp only [List.length_cons] at h; omega
      · exact (List.mem_erase_of_ne hxa).2 hx
variable {κ ν : Type} {M : MT κ ν} {b r n : Nat} {m : κ → Option ν} {es done : List (κ × ν)} {w w' : World} {X : Nat → Prop}
/-- All entries of a map of n. -/
structure Ents (M : MT κ ν) (m : κ → Option ν) (n : Nat) (es : List (κ × ν)) : Prop where
  len : es.length = n
  nod : (es.map Prod.fst).Nodup
  ent : ∀ x ∈ es, M.kok x.1 ∧ m x.1 = some x.2
/-- A range over the map in block b is under way: done is what came. -/
def Gt (M : MT κ ν) (b r n : Nat) (es done : List (κ × ν)) (w : World) : Prop := ∃ (D : DataW Unit) (left : Lit → Bool) (cnt : Nat), w.ranges Tryz.prog M.kt M.R b r n D left cnt ∧ cnt + done.length ≤ n ∧ (∀ kl, left kl = true → ∃ x ∈ es, M.kl x.1 = kl) ∧
  (∀ x ∈ es, M.kok x.1 ∧ M.eok x.2 ∧ D.atKey (M.kl x.1) M.zd = M.ed x.2) ∧ (∀ x ∈ es, ∀ y ∈ es, x.1 = y.1 → x = y) ∧ (∀ x ∈ es, left (M.kl x.1) = true ↔ x ∉ done) ∧ (∀ x ∈ done, x ∈ es) ∧ done.Nodup
theorem Mp.range (hM : M.Ok) (h : Mp M b m n w) (hE : Ents M m n es) : ∃ W, (Instr.range M.mt (.map (some b))).run Tryz.prog w = .ok (.pointer (some ⟨w.heap.size, 0, none⟩)) W ∧ Gt M b w.heap.size n es [] W ∧ Nw w W := by
  obtain ⟨D, h1, h2, h3⟩ := h
  obtain ⟨W, k1, k2, k3, k4⟩ := h1.range hM.keyed hM.und
  have hin : ∀ x ∈ es, M.eok x.2 ∧ Maps.has D (M.kl x.1) = true ∧ D.atKey (M.kl x.1) M.zd = M.ed x.2 := fun x hx => by
    obtain ⟨e1, e2⟩ := hE.ent x hx
    have := h3 x.1 e1
    rw [e2] at this
    exact this
  have hap : ∀ x ∈ es, ∀ y ∈ es, x.1 = y.1 → x = y := fun x hx y hy e => by
    have a1 := (hE.ent x hx).2
    have a2 := (hE.ent y hy).2
    rw [e, a2] at a1
    injection a1 with a1
    exact Prod.ext e a1.symm
  refine ⟨W, k1, ⟨D, _, _, k2, by rw [h2]; simp, fun kl hkl => ?_, fun x hx => ⟨(hE.ent x hx).1, (hin x hx).1, (hin x hx).2.2⟩, hap, fun x hx => by simp [(hin x hx).2.1], fun x hx => absurd hx (by simp), List.nodup_nil⟩, ⟨k3.os, k3.tape, k3.output, k3.size, fun i hi hne => k3.block i hi (by simp)⟩⟩
  obtain ⟨E, rfl, hp, hk⟩ := h1.entries hM.keyed
  obtain ⟨p, hpE, hpk⟩ := List.any_eq_true.1 hkl
  have hpe := WideAt.sameKey_eq hpk
  haveI : DecidableEq Lit := fun a c => Classical.propDecidable (a = c)
  have hc := cover (es.map (fun x => M.kl x.1)) (E.map Prod.fst) ?_ ?_ ?_ p.1 (List.mem_map.2 ⟨p, hpE, rfl⟩)
  · obtain ⟨x, hx, e⟩ := List.mem_map.1 hc
    exact ⟨x, hx, e.trans hpe⟩
  · have := hE.nod
    rw [List.nodup_iff_pairwise_ne, List.pairwise_map] at this ⊢
    exact this.imp_of_mem (fun {x y} hx hy hne e => hne (hM.kinj _ _ (hE.ent x hx).1 (hE.ent y hy).1 e))
  · intro kl2 hk2
    obtain ⟨x, hx, rfl⟩ := List.mem_map.1 hk2
    obtain ⟨p2, hp2, hpk2⟩ := List.any_eq_true.1 (hin x hx).2.1
    exact List.mem_map.2 ⟨p2, hp2, WideAt.sameKey_eq hpk2⟩
  · have : E.length = n := h2
    simp only [List.length_map]; rw [this, hE.len]; exact Nat.le_refl _
theorem Gt.kept (h : Gt M b r n es done w) (f : Fr X w w') (hb : ¬ X b) (hr : ¬ X r) : Gt M b r n es done w' := by
  obtain ⟨D, left, cnt, h1, h2⟩ := h
  refine ⟨D, left, cnt, ?_, h2⟩
  have hlt := h1.lt
  have hbl := h1.owns.lt
  obtain ⟨E, clock, since, seen, c0, hb', F, hs, hD, hr', rest⟩ := h1
  exact ⟨E, clock, since, seen, c0, (f.block b hbl hb).trans hb', F, hs, hD, (f.block r hlt hr).trans hr', rest⟩
theorem Gt.nw (h : Gt M b r n es done w) (f : Nw w w') : Gt M b r n es done w' := h.kept f (fun h => h) (fun h => h)
theorem Gt.lt (h : Gt M b r n es done w) : r < w.heap.size ∧ b < w.heap.size ∧ r ≠ b := by
  obtain ⟨D, left, cnt, h1, h2⟩ := h
  exact ⟨h1.lt, h1.owns.lt, h1.ne⟩
theorem Gt.next (hM : M.Ok) (h : Gt M b r n es done w) :
    ((∀ ty, (Instr.next (.pointer (some ⟨r, 0, none⟩)) false ty).run Tryz.prog w = .ok (.tuple #[.bool false]) w) ∧ ∀ x ∈ es, x ∈ done) ∨
    ∃ x W, x ∈ es ∧ x ∉ done ∧ (∀ ty, (Instr.next (.pointer (some ⟨r, 0, none⟩)) false ty).run Tryz.prog w = .ok (.tuple #[.bool true, M.kv x.1, M.ev x.2]) W) ∧ (Instr.entry (.pointer (some ⟨r, 0, none⟩))).run Tryz.prog W = .ok (.tuple #[M.kv x.1, M.ev x.2]) W ∧ Gt M b r n es (done ++ [x]) W ∧ Fr (fun i => i = r) w W := by
  obtain ⟨D, left, cnt, h1, h2, h3, h4, h5, h6, h7, h8⟩ := h
  have hsame : ∀ ty ty', (Instr.next (.pointer (some ⟨r, 0, none⟩)) false ty).run Tryz.prog w = (Instr.next (.pointer (some ⟨r, 0, none⟩)) false ty').run Tryz.prog w := fun ty ty' => rfl
  rcases h1.next hM.keyed 0 with ⟨c0, hl, hrun⟩ | ⟨key, v, kl, y, W, cnt', k1, k2, k3, k4, k5, k6, k7, k8, k9, k10⟩
  · refine .inl ⟨fun ty => by rw [hsame ty 0]; exact hrun, fun x hx => ?_⟩
    have := h6 x hx
    rw [hl] at this
    simpa using this
  · obtain ⟨x, hx, rfl⟩ := h3 kl k2
    obtain ⟨e1, e2, e3⟩ := h4 x hx
    have hkey : key = M.kv x.1 := hM.keyed.inj k1 (hM.keq _ e1)
    have hv : v = M.ev x.2 := hM.einv v x.2 y.2 e2 (by rw [k3, ← e3, k4 M.zd])
    subst hkey hv
    have hnd := (h6 x hx).1 k2
    refine .inr ⟨x, W, hx, hnd, fun ty => by rw [hsame ty 0]; exact k5, k10, ⟨D, _, cnt', k6, by simp; omega, fun kl hkl => h3 kl (by simp only [Bool.and_eq_true] at hkl; exact hkl.1), h4, h5, fun z hz => ?_, fun z hz => ?_, ?_⟩, ⟨k8.os, k8.tape, k8.output, k8.size, fun i hi hne => k8.block i hi (fun e => hne (by injection e))⟩⟩
    · simp only [Bool.and_eq_true, Bool.not_eq_true', List.mem_append, List.mem_singleton, not_or]
      rw [h6 z hz]
      refine and_congr Iff.rfl ?_
      constructor
      · rintro hs rfl
        rw [WideAt.sameKey_self (hM.keyed.key k1)] at hs; cases hs
      · intro hne
        exact Maps.sameKey_ne (fun e => hne (h5 z hz x hx (hM.kinj _ _ (h4 z hz).1 e1 e)))
    · rcases List.mem_append.1 hz with hz | hz
      · exact h7 z hz
      · rw [List.mem_singleton] at hz; rw [hz]; exact hx
    · rw [List.nodup_append]
      exact ⟨h8, by simp, fun a ha c hc e => by rw [List.mem_singleton] at hc; subst hc; subst e; exact hnd ha⟩
end Go.Proofs.YtcogkhcfpgelhabGreat

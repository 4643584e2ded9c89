import Derived.Test.YtdabfncpanfemaaGnA
import Derived.Maps.OwnSet
namespace Go.Proofs.Ytdabfncpanfemaa
open Go.RowKit Go.ChangeMaps Go.MapKept
set_option linter.unusedVariables false
set_option maxRecDepth 100000
/-! ### Maps in memory, read as functions -/
structure MT (κ ν : Type) where
  kt : TypeId
  et : TypeId
  mt : TypeId
  kv : κ → Value
  kl : κ → Lit
  kok : κ → Prop
  ev : ν → Value
  ed : ν → DataW Unit
  eok : ν → Prop
  zv : Value
  zd : DataW Unit
  R : Value → Option (DataW Unit × List MemPlace)
variable {κ ν : Type}
structure MT.Ok (M : MT κ ν) : Prop where
  keyed : Maps.Keyed Try.prog M.kt
  und : Try.prog.underlying M.mt = some (.map M.kt M.et)
  keq : ∀ k, M.kok k → keyOf Try.prog M.kt (M.kv k) = some (M.kl k)
  kinj : ∀ k k', M.kok k → M.kok k' → M.kl k = M.kl k' → k = k'
  eR : ∀ v, M.eok v → M.R (M.ev v) = some (M.ed v, [])
  einv : ∀ u v ps, M.eok v → M.R u = some (M.ed v, ps) → u = M.ev v
  zR : M.R M.zv = some (M.zd, [])
  zinv : ∀ u ps, M.R u = some (M.zd, ps) → u = M.zv
  zero : ∀ w, (zeroValue M.et).run Try.prog w = .ok M.zv w
variable {M : MT κ ν}
/-- Block b is a map of n entries that reads as m. -/
def Mp (M : MT κ ν) (b : Nat) (m : κ → Option ν) (n : Nat) (w : World) : Prop := ∃ D : DataW Unit, w.ownsMap Try.prog M.kt M.R b n D ∧ Maps.size D = n ∧ ∀ k, M.kok k → match m k with
  | none => Maps.has D (M.kl k) = false
  | some v => M.eok v ∧ Maps.has D (M.kl k) = true ∧ D.atKey (M.kl k) M.zd = M.ed v
theorem Fr.ownsMap {X : Nat → Prop} {w w' : World} (h : Fr X w w') (b : Nat) (hb : ¬ X b) : ∀ {P : Program} {k : TypeId} {R : Value → Option (DataW Unit × List MemPlace)} {n : Nat} {D : DataW Unit}, w.ownsMap P k R b n D → w'.ownsMap P k R b n D := by
  intro P k R n D ho
  have hlt := ho.lt
  obtain ⟨es, clock, hbk, F, hs, hD⟩ := ho
  exact ⟨es, clock, (h.block b hlt hb).trans hbk, F, hs, hD⟩
variable {b : Nat} {m : κ → Option ν} {n : Nat} {w w' : World} {X : Nat → Prop}
theorem Mp.kept (h : Mp M b m n w) (f : Fr X w w') (hb : ¬ X b) : Mp M b m n w' := by
  obtain ⟨D, h1, h2⟩ := h
  exact ⟨D, f.ownsMap b hb h1, h2⟩
theorem Mp.nw (h : Mp M b m n w) (f : Nw w w') : Mp M b m n w' := h.kept f (fun h => h)
theorem Mp.lt (h : Mp M b m n w) : b < w.heap.size := by
  obtain ⟨D, h1, _⟩ := h
  exact h1.lt
/-- It is a map, and no row. -/
theorem Mp.isMap (h : Mp M b m n w) : ∃ es c, w.heap[b]? = some (.map es c) := by
  obtain ⟨D, ⟨es, clock, hb, _⟩, _⟩ := h
  exact ⟨es, clock, hb⟩
theorem Mp.cong (h : Mp M b m n w) {m' : κ → Option ν} (e : ∀ k, M.kok k → m' k = m k) : Mp M b m' n w := by
  obtain ⟨D, h1, h2, h3⟩ := h
  exact ⟨D, h1, h2, fun k hk => by rw [e k hk]; exact h3 k hk⟩
theorem Mp.made (w : World) : Mp M w.heap.size (fun _ => none) 0 (w.alloc (.map #[] 0)) := ⟨.map [], World.ownsMap_made _ _ _ _, rfl, fun k hk => rfl⟩
theorem Mp.look (hM : M.Ok) (h : Mp M b m n w) (k : κ) (hk : M.kok k) : (Instr.lookup M.mt (.map (some b)) (M.kv k) true).run Try.prog w = .ok (.tuple #[(m k).elim M.zv M.ev, .bool (m k).isSome]) w := by
  obtain ⟨D, h1, _, h2⟩ := h
  obtain ⟨v, ps, hrun, hv⟩ := h1.look_ok hM.keyed hM.und (hM.zero w) hM.zR (hM.keq k hk)
  have := h2 k hk
  rw [hrun]
  cases hm : m k with
  | none =>
    rw [hm] at this
    simp only at this
    rw [Maps.atKey_of_not_has this] at hv
    rw [this, hM.zinv v ps hv]; rfl
  | some q =>
    rw [hm] at this
    simp only at this
    rw [this.2.2] at hv
    rw [this.2.1, hM.einv v q ps this.1 hv]; rfl
theorem Mp.look1 (hM : M.Ok) (h : Mp M b m n w) (k : κ) (hk : M.kok k) : (Instr.lookup M.mt (.map (some b)) (M.kv k) false).run Try.prog w = .ok ((m k).elim M.zv M.ev) w := by
  obtain ⟨D, h1, _, h2⟩ := h
  obtain ⟨v, ps, hrun, hv⟩ := h1.lookup hM.keyed hM.und (hM.zero w) hM.zR (hM.keq k hk)
  have := h2 k hk
  rw [hrun]
  cases hm : m k with
  | none =>
    rw [hm] at this
    simp only at this
    rw [Maps.atKey_of_not_has this] at hv
    rw [hM.zinv v ps hv]; rfl
  | some q =>
    rw [hm] at this
    simp only at this
    rw [this.2.2] at hv
    rw [hM.einv v q ps this.1 hv]; rfl
/-- A map that is nil. -/
theorem look1_nil (hM : M.Ok) (w : World) (k : κ) (hk : M.kok k) : (Instr.lookup M.mt (.map none) (M.kv k) false).run Try.prog w = .ok M.zv w := Maps.look_nil (w := w) false hM.keyed hM.und (hM.zero w) (hM.keq k hk)
theorem Mp.store [DecidableEq κ] (hM : M.Ok) (h : Mp M b m n w) (k : κ) (hk : M.kok k) (v : ν) (hv : M.eok v) (hn : n ≤ 1000000000000000) : ∃ w', (Instr.mapUpdate M.mt (.map (some b)) (M.kv k) (M.ev v)).run Try.prog w = .ok () w' ∧ (∀ m', (∀ x, M.kok x → m' x = if x = k then some v else m x) → Mp M b m' (if (m k).isSome then n else n + 1) w') ∧ Fr (fun i => i = b) w w' := by
  obtain ⟨D, h1, h2, h3⟩ := h
  obtain ⟨w', hrun, ho, hg⟩ := h1.update hM.keyed hM.und (by unfold maxLen; omega) (hM.keq k hk) (hM.eR v hv)
  have hkl := hM.keyed.key (hM.keq k hk)
  have hsz := Maps.size_put (k := M.kl k) (h1.tidy hM.keyed) (M.ed v)
  refine ⟨w', hrun, fun m' hm' => ⟨D.put (M.kl k) (M.ed v), ?_, ?_, fun x hx => ?_⟩, ⟨hg.os, hg.tape, hg.output, hg.size, fun i hi hne => hg.block i hi (fun e => hne (by injection e))⟩⟩
  · obtain ⟨es, clock, q1, q2, q3, q4⟩ := ho
    refine ⟨es, clock, q1, q2, ?_, q4⟩
    have e1 : es.size = Maps.size (D.put (M.kl k) (M.ed v)) := by rw [q4]; simp [Maps.size, length_sorted]
    have := h3 k hk
    rw [e1, hsz]
    cases hm : m k with
    | none => rw [hm] at this; simp only at this; rw [this]; simp; omega
    | some q => rw [hm] at this; simp only at this; rw [this.2.1]; simp; omega
  · have := h3 k hk
    rw [hsz]
    cases hm : m k with
    | none => rw [hm] at this; simp only at this; rw [this]; simp; omega
    | some q => rw [hm] at this; simp only at this; rw [this.2.1]; simp; omega
  · rw [hm' x hx]
    by_cases hxe : x = k
    · subst hxe
      rw [if_pos rfl]
      exact ⟨hv, Maps.has_put_same h1.isMap hkl _, Maps.atKey_put_same h1.isMap hkl _ _⟩
    · have hxk : M.kl x ≠ M.kl k := fun e => hxe (hM.kinj x k hx hk e)
      rw [if_neg hxe]
      have := h3 x hx
      rw [Maps.has_put_other hxk]
      cases hm : m x with
      | none => rw [hm] at this; exact this
      | some p => rw [hm] at this; exact ⟨this.1, this.2.1, by rw [Maps.atKey_put_other hxk]; exact this.2.2⟩
theorem Mp.del [DecidableEq κ] (hM : M.Ok) (h : Mp M b m n w) (k : κ) (hk : M.kok k) : ∃ w', (∀ ty, (Builtin.delete_ #[M.mt, M.kt] ty #[.map (some b), M.kv k]).run Try.prog w = .ok (.tuple #[]) w') ∧ (∀ m', (∀ x, M.kok x → m' x = if x = k then none else m x) → Mp M b m' (if (m k).isSome then n - 1 else n) w') ∧ Fr (fun i => i = b) w w' := by
  obtain ⟨D, h1, h2, h3⟩ := h
  obtain ⟨w', hrun, ho, hg⟩ := h1.drop hM.keyed hM.und (hM.keq k hk) 0
  have hsz := Maps.size_del (k := M.kl k) (h1.tidy hM.keyed)
  have hsame : ∀ ty, (Builtin.delete_ #[M.mt, M.kt] ty #[.map (some b), M.kv k]).run Try.prog w = .ok (.tuple #[]) w' := fun ty => by
    rw [← hrun]; rfl
  refine ⟨w', hsame, fun m' hm' => ⟨D.del (M.kl k), ?_, ?_, fun x hx => ?_⟩, ?_⟩
  · obtain ⟨es, clock, q1, q2, q3, q4⟩ := ho
    refine ⟨es, clock, q1, q2, ?_, q4⟩
    have e1 : es.size = Maps.size (D.del (M.kl k)) := by rw [q4]; simp [Maps.size, length_sorted]
    have := h3 k hk
    rw [e1]
    cases hm : m k with
    | none => rw [hm] at this; simp only at this; rw [this] at hsz; simp at hsz ⊢; omega
    | some q => rw [hm] at this; simp only at this; rw [this.2.1] at hsz; simp at hsz ⊢; omega
  · have := h3 k hk
    cases hm : m k with
    | none => rw [hm] at this; simp only at this; rw [this] at hsz; simp at hsz ⊢; omega
    | some q => rw [hm] at this; simp only at this; rw [this.2.1] at hsz; simp at hsz ⊢; omega
  · rw [hm' x hx]
    by_cases hxe : x = k
    · subst hxe
      rw [if_pos rfl]
      exact Maps.has_del_same
    · have hxk : M.kl x ≠ M.kl k := fun e => hxe (hM.kinj x k hx hk e)
      rw [if_neg hxe]
      have := h3 x hx
      rw [Maps.has_del_other hxk]
      cases hm : m x with
      | none => rw [hm] at this; exact this
      | some p => rw [hm] at this; exact ⟨this.1, this.2.1, by rw [Maps.atKey_del_other hxk]; exact this.2.2⟩
  · obtain ⟨es, clock, es', clock', hb, rfl⟩ := hg
    exact ⟨rfl, rfl, rfl, by simp [setBlock], fun i hi hne => heap_setBlock_other hb _ hne⟩
theorem Mp.len (hM : M.Ok) (h : Mp M b m n w) : ∀ ty, (Builtin.len_ #[M.mt] ty #[.map (some b)]).run Try.prog w = .ok (.int .i64 n) w := fun ty => by
  obtain ⟨D, h1, h2, h3⟩ := h
  have := h1.len hM.und ty
  rw [h2] at this
  exact this
theorem len_nil' (hM : M.Ok) (w : World) : ∀ ty, (Builtin.len_ #[M.mt] ty #[.map none]).run Try.prog w = .ok (.int .i64 0) w := fun ty => Maps.len_nil (w := w) hM.und ty
/-! ### Keys that are numbers or texts -/
theorem i64wf {z : Int} (h1 : -9223372036854775808 ≤ z) (h2 : z < 9223372036854775808) : (Lit.int .i64 z).wf = true := by
  simp [Lit.wf, IntKind.bits, IntKind.signed, IntKind.min, IntKind.max]
  omega
def I64 (z : Int) : Prop := -9223372036854775808 ≤ z ∧ z < 9223372036854775808
end Go.Proofs.Ytdabfncpanfemaa

import Derived.Test.YtenkchhlaphocaaGreatDoorVfM
import Derived.Test.YtenkchhlaphocaaGreatDoorNkU
import Derived.Test.YtenkchhlaphocaaGreatDoorNkE
import Derived.StringKeys
import Derived.Sort.KeysCollected
import Derived.Sort.OwnSorted
namespace Go.Proofs.YtenkchhlaphocaaGreatDoor
open Go.RowKit Go.ChangeMaps Go.MapKept
set_option linter.unusedVariables false
set_option maxRecDepth 100000
/-! ### A map of pairs, under their keys -/
def Rpr : Value → Option (DataW Unit × List MemPlace)
  | .agg cs => match cs.toList with
    | [.string a, .string b] => some (.agg [.lit (.string a.toList), .lit (.string b.toList)], [])
    | _ => none
  | _ => none
theorem bs_of (a : ByteArray) (l : Bs) (h : a.toList = (str l).toList) : a = str l := by
  rw [← str_bys a] at h
  rw [← strL_inj h, str_bys]
theorem Rpr_inv {u : Value} {p : Pr} {ps : List MemPlace} (h : Rpr u = some (.agg [.lit (.string (str p.1).toList), .lit (.string (str p.2).toList)], ps)) : u = .agg (prC p) := by
  unfold Rpr at h
  split at h
  · rename_i cs
    split at h
    · rename_i a b hcs
      simp only [Option.some.injEq, Prod.mk.injEq] at h
      obtain ⟨h, _⟩ := h
      injection h with h
      injection h with h1 h2
      injection h2 with h2 _
      injection h1 with h1
      injection h1 with h1
      injection h2 with h2
      injection h2 with h2
      have : cs = #[.string a, .string b] := by
        apply Array.ext'
        rw [hcs]
      rw [this, bs_of a p.1 h1, bs_of b p.2 h2]
      rfl
    · cases h
  · cases h
def MP : MT Bs Pr := { kt := 9, et := 28, mt := 42, kv := fun k => .string (str k), kl := fun k => .string (str k).toList, kok := fun k => k.length ≤ 140737488351232, ev := fun p => .agg (prC p), ed := fun p => .agg [.lit (.string (str p.1).toList), .lit (.string (str p.2).toList)], eok := fun _ => True, zv := .agg (prC ([], [])), zd := .agg [.lit (.string (str ([] : Bs)).toList), .lit (.string (str ([] : Bs)).toList)], R := Rpr }
theorem mpOk : MP.Ok where
  keyed := Maps.string_keyed Tryz.underlying9
  und := Tryz.underlying42
  keq := fun k hk => by
    have := WideMaps.keyOf_string_mk (P := Tryz.prog) (k := 9) Tryz.underlying9 (s := str k) (by rw [str_size]; simp only [MP] at hk; unfold maxLen; omega)
    have e : (str k).toList = (str k).data.toList := ByteArray.toList_eq _
    show keyOf Tryz.prog 9 (.string (str k)) = some (.string (str k).toList)
    rw [e]
    exact this
  kinj := fun k k' _ _ h => by
    simp only [MP] at h
    injection h with h
    exact strL_inj h
  eR := fun v hv => rfl
  einv := fun u v ps _ h => Rpr_inv h
  zR := rfl
  zinv := fun u ps h => Rpr_inv (p := ([], [])) h
  zero := fun w => by kernel_rfl
/-- What the map holds when l has come. -/
def mpV (l : List Pr) (k : Bs) : Option Pr := (fndV l k).map (fun v => (k, v))
theorem fnd_snoc (l : List Pr) (x : Pr) (k : Bs) : fndV (l ++ [x]) k = if k = x.1 then some x.2 else fndV l k := by
  rw [fnd_app, fnd_cons]
  by_cases h : x.1 = k
  · rw [if_pos h, if_pos h.symm]; rfl
  · rw [if_neg h, if_neg (fun e => h e.symm)]; rfl
theorem mpV_snoc (l : List Pr) (x : Pr) (k : Bs) : mpV (l ++ [x]) k = if k = x.1 then some x else mpV l k := by
  unfold mpV
  rw [fnd_snoc]
  by_cases h : k = x.1
  · rw [if_pos h, if_pos h, h]; rfl
  · rw [if_neg h, if_neg h]
/-- The keys, each once. -/
def dk (l : List Pr) : List Bs := l.foldl (fun a x => if x.1 ∈ a then a else a ++ [x.1]) []
theorem dk_snoc (l : List Pr) (x : Pr) : dk (l ++ [x]) = if x.1 ∈ dk l then dk l else dk l ++ [x.1] := by
  unfold dk
  rw [List.foldl_append]
  rfl
theorem snoc_ind {p : List Pr → Prop} (h0 : p []) (h1 : ∀ l x, p l → p (l ++ [x])) (l : List Pr) : p l := by
  have : ∀ n (l : List Pr), l.length = n → p l := fun n => by
    induction n with
    | zero => intro l hl; rw [List.eq_nil_of_length_eq_zero hl]; exact h0
    | succ n ih =>
      intro l hl
      have hne : l ≠ [] := fun e => by rw [e] at hl; simp at hl
      rw [← List.dropLast_concat_getLast hne]
      exact h1 _ _ (ih _ (by rw [List.length_dropLast]; omega))
  exact this _ l rfl
theorem dk_mem (l : List Pr) (k : Bs) : k ∈ dk l ↔ (fndV l k).isSome = true := by
  induction l using snoc_ind with
  | h0 => simp [dk, fndV]
  | h1 l x ih =>
    rw [dk_snoc, fnd_snoc]
    by_cases hk : k = x.1
    · subst hk
      rw [if_pos rfl]
      simp only [Option.isSome_some, iff_true]
      split
      · assumption
      · simp
    · rw [if_neg hk, ← ih]
      split
      · exact Iff.rfl
      · simp [hk]
theorem dk_nodup (l : List Pr) : (dk l).Nodup := by
  induction l using snoc_ind with
  | h0 => simp [dk]
  | h1 l x ih =>
    rw [dk_snoc]
    split
    · exact ih
    · rename_i h
      rw [List.nodup_append]
      exact ⟨ih, by simp, fun a ha b hb e => by rw [List.mem_singleton] at hb; subst hb; subst e; exact h ha⟩
theorem dk_len (l : List Pr) (x : Pr) : (dk (l ++ [x])).length = if (mpV l x.1).isSome = true then (dk l).length else (dk l).length + 1 := by
  rw [dk_snoc]
  unfold mpV
  rw [Option.isSome_map]
  by_cases h : x.1 ∈ dk l
  · rw [if_pos h, if_pos ((dk_mem l x.1).1 h)]
  · rw [if_neg h, if_neg (fun e => h ((dk_mem l x.1).2 e))]
    simp
theorem dk_le (l : List Pr) : (dk l).length ≤ l.length := by
  induction l using snoc_ind with
  | h0 => simp [dk]
  | h1 l x ih =>
    rw [dk_snoc]
    split
    · simp; omega
    · simp; omega
theorem mem_key (l : List Pr) (k : Bs) (h : k ∈ dk l) : ∃ x ∈ l, x.1 = k := by
  rw [dk_mem, Option.isSome_iff_exists] at h
  obtain ⟨v, hv⟩ := h
  exact ⟨_, fnd_mem l k v hv, rfl⟩
/-- How the map stands in memory when l has come. -/
def MpL (mb : Nat) (l : List Pr) (w : World) : Prop := Mp MP mb (mpV l) (dk l).length w
theorem MpL.store {mb : Nat} {l : List Pr} {w : World} (h : MpL mb l w) (x : Pr) (hx : x.1.length ≤ 140737488351232) (hl : l.length ≤ 1000000000) : ∃ w', (Instr.mapUpdate 42 (.map (some mb)) (.string (str x.1)) (.agg (prC x))).run Tryz.prog w = .ok () w' ∧ MpL mb (l ++ [x]) w' ∧ Fr (fun i => i = mb) w w' := by
  have hd := dk_le l
  obtain ⟨w', h1, h2, h3⟩ := Mp.store mpOk h x.1 hx x trivial (by omega)
  refine ⟨w', h1, ?_, h3⟩
  have := h2 (mpV (l ++ [x])) (fun k _ => mpV_snoc l x k)
  rw [← dk_len] at this
  exact this
theorem MpL.look {mb : Nat} {l : List Pr} {w : World} (h : MpL mb l w) (k : Bs) (hk : k.length ≤ 140737488351232) (v : Bs) (hv : fndV l k = some v) : (Instr.lookup 42 (.map (some mb)) (.string (str k)) false).run Tryz.prog w = .ok (.agg (prC (k, v))) w := by
  have := Mp.look1 mpOk h k hk
  have e : mpV l k = some (k, v) := by unfold mpV; rw [hv]; rfl
  rw [e] at this
  exact this
theorem MpL.kept {mb : Nat} {l : List Pr} {w w' : World} {X : Nat → Prop} (h : MpL mb l w) (f : Fr X w w') (hx : ¬ X mb) : MpL mb l w' := Mp.kept h f hx
theorem mpL_made (w : World) : MpL w.heap.size [] (w.alloc (.map #[] 0)) := Mp.made (M := MP) w
end Go.Proofs.YtenkchhlaphocaaGreatDoor

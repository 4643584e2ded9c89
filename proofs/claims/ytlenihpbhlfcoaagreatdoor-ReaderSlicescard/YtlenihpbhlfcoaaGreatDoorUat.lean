import Derived.Test.YtlenihpbhlfcoaaGreatDoorUag
import Derived.Test.YtlenihpbhlfcoaaGreatDoorUah
set_option maxHeartbeats 8000000
set_option maxRecDepth 100000
set_option linter.unusedSimpArgs false
set_option linter.unusedVariables false
namespace Go.Proofs.YtlenihpbhlfcoaaGreatDoor
open Go.RowKit
def sT : List Nat := [1, 9, 10, 11, 2]
def sN : List Nat := [3, 4, 5, 6, 7, 12, 13]
def kT : List Nat := [0, 8, 10, 11, 14]
def kN : List Nat := [1, 2, 3, 4, 5, 12, 13]
def tF : List (Nat × Nat) := [(0, 100), (157, 100), (265, 32), (297, 32), (345, 155)]
theorem five {i : Nat} (h : i < 5) : i = 0 ∨ i = 1 ∨ i = 2 ∨ i = 3 ∨ i = 4 := by omega
theorem seven {i : Nat} (h : i < 7) : i = 0 ∨ i = 1 ∨ i = 2 ∨ i = 3 ∨ i = 4 ∨ i = 5 ∨ i = 6 := by omega
theorem dH_t (b : List By) (f i j o n s : Nat) (hi : tF[i]? = some (o, n)) (hs : sT[i]? = some s) (ho : o < fE f) : (dH b f (i + 1) j).C = (dH b f i j).C.setIfInBounds s (.string (str (txt (fd b o n)))) := by
 have h5 : i < 5 := (List.getElem?_eq_some_iff.1 hi).1;rcases five h5 with rfl | rfl | rfl | rfl | rfl <;>
 ·simp only [tF, sT, List.getElem?_cons_zero, List.getElem?_cons_succ, Option.some.injEq, Prod.mk.injEq] at hi hs;obtain ⟨rfl, rfl⟩ := hi;subst hs;simp [dH, Hr.C, dT, ho]
theorem dH_tn (b : List By) (f i j o n : Nat) (hi : tF[i]? = some (o, n)) (ho : ¬ o < fE f) : dH b f (i + 1) j = dH b f i j := by
 have h5 : i < 5 := (List.getElem?_eq_some_iff.1 hi).1;rcases five h5 with rfl | rfl | rfl | rfl | rfl <;>
 ·simp only [tF, List.getElem?_cons_zero, List.getElem?_cons_succ, Option.some.injEq, Prod.mk.injEq] at hi;obtain ⟨rfl, rfl⟩ := hi;simp [dH, dT, ho]
theorem dH_n (b : List By) (f i j o n s : Nat) (bl : Bool) (hi : nF[j]? = some (o, n, bl)) (hs : sN[j]? = some s) (ho : o < fE f) : (dH b f i (j + 1)).C = (dH b f i j).C.setIfInBounds s (.int .i64 (nmN (fd b o n))) := by
 have h5 : j < 7 := (List.getElem?_eq_some_iff.1 hi).1;rcases seven h5 with rfl | rfl | rfl | rfl | rfl | rfl | rfl <;>
 ·simp only [nF, sN, List.getElem?_cons_zero, List.getElem?_cons_succ, Option.some.injEq, Prod.mk.injEq] at hi hs;obtain ⟨rfl, rfl, rfl⟩ := hi;subst hs;simp [dH, Hr.C, dN, ho]
theorem dH_nn (b : List By) (f i j o n : Nat) (bl : Bool) (hi : nF[j]? = some (o, n, bl)) (ho : ¬ o < fE f) : dH b f i (j + 1) = dH b f i j := by
 have h5 : j < 7 := (List.getElem?_eq_some_iff.1 hi).1;rcases seven h5 with rfl | rfl | rfl | rfl | rfl | rfl | rfl <;>
 ·simp only [nF, List.getElem?_cons_zero, List.getElem?_cons_succ, Option.some.injEq, Prod.mk.injEq] at hi;obtain ⟨rfl, rfl, rfl⟩ := hi;simp [dH, dN, ho]
theorem scN_step (b : List By) (f j o n : Nat) (bl : Bool) (hi : nF[j]? = some (o, n, bl)) : scN b f (nF.drop j) = if o < fE f ∧ nbE b o n bl ≠ 0 then (o, nbE b o n bl) else scN b f (nF.drop (j + 1)) := by
 obtain ⟨hj, e⟩ := List.getElem?_eq_some_iff.1 hi;rw [List.drop_eq_getElem_cons hj, e];rfl
def tOkI (h : Hr) (f i : Nat) : Prop := ∀ k x, k < i → h.ts[k]? = some x → tFit f x = true
def nOkI (h : Hr) (f j : Nat) : Prop := ∀ k x, k < j → h.ns[k]? = some x → nFit f x = true
theorem tFit_has {f o n : Nat} {s : ByteArray} (h : tFit f (o, n, s) = true) (ho : o < fE f) : pxE s n = 0 := by
 unfold tFit at h;rw [Bool.or_eq_true] at h;rcases h with h | h
 ·have := of_decide_eq_true h;simp only at this;omega
 ·exact of_decide_eq_true h
theorem nFit_has {f o n : Nat} {x : Int} {bl : Bool} (h : nFit f (o, n, x, bl) = true) (ho : o < fE f) : nE f x n = 0 ∧ (0 ≤ x ∨ bl = true) := by
 unfold nFit at h;rw [Bool.or_eq_true] at h;rcases h with h | h
 ·have := of_decide_eq_true h;simp only at this;omega
 ·simp only [Bool.and_eq_true, Bool.or_eq_true, decide_eq_true_eq] at h;exact h
theorem zs_length (n : Nat) : (zs n).length = n := List.length_replicate
theorem px_length (s : ByteArray) (n : Nat) (h : pxE s n = 0) : (pxL s n).length = n := by
 have := (px_ok s n h).2;omega
theorem nL_length (f : Nat) (x : Int) (n : Nat) (hx : i64 x) (h : nE f x n = 0) : (nL f x n).length = n := by
 unfold nL nE at *;by_cases hf : f = 3
 ·rw [if_pos hf] at h ⊢;have := (pnL_num x n hx.1 hx.2 h).2.1;omega
 ·rw [if_neg hf] at h ⊢;have := poL_length x n (po_ok x n h).1;omega
theorem eT_length (f i k o n : Nat) (s : ByteArray) (h : k < i → o < fE f → pxE s n = 0) : (eT f i k o n s).length = n := by
 unfold eT;split
 ·next q => exact px_length s n (h q.1 q.2)
 ·exact zs_length n
theorem eN_length (f j k o n : Nat) (x : Int) (hx : i64 x) (h : k < j → o < fE f → nE f x n = 0) : (eN f j k o n x).length = n := by
 unfold eN;split
 ·next q => exact nL_length f x n hx (h q.1 q.2)
 ·exact zs_length n
theorem eL_fs (h : Hr) (ok : h.Ok) (f i j : Nat) (t m : List By) (ht : t.length = 1) (hm : m.length = 8) (hT : tOkI h f i) (hN : nOkI h f j) : Fs (eL h f i j t m) := by
 have T : ∀ k o n s, h.ts[k]? = some (o, n, s) → (eT f i k o n s).length = n := fun k o n s e => eT_length f i k o n s (fun q1 q2 => tFit_has (hT k _ q1 e) q2)
 have N : ∀ k o n x bl, h.ns[k]? = some (o, n, x, bl) → i64 x → (eN f j k o n x).length = n := fun k o n x bl e hx => eN_length f j k o n x hx (fun q1 q2 => (nFit_has (hN k _ q1 e) q2).1)
 unfold Fs eL;simp only [List.map_cons, List.map_nil];rw [T 0 0 100 _ rfl, T 1 157 100 _ rfl, T 2 265 32 _ rfl, T 3 297 32 _ rfl, T 4 345 155 _ rfl, N 0 100 8 _ _ rfl ok.mode, N 1 108 8 _ _ rfl ok.uid, N 2 116 8 _ _ rfl ok.gid, N 3 124 12 _ _ rfl ok.size, N 4 136 12 _ _ rfl ok.time, N 5 329 8 _ _ rfl ok.major, N 6 337 8 _ _ rfl ok.minor, ht, hm, zs_length, zs_length];rfl
theorem eL_t (h : Hr) (f i j o n k : Nat) (s : ByteArray) (t m : List By) (hi : h.ts[i]? = some (o, n, s)) (hk : kT[i]? = some k) (ho : o < fE f) : eL h f (i + 1) j t m = (eL h f i j t m).set k (pxL s n) := by
 have h5 : i < 5 := (List.getElem?_eq_some_iff.1 hi).1;rcases five h5 with rfl | rfl | rfl | rfl | rfl <;>
 ·simp only [Hr.ts, kT, List.getElem?_cons_zero, List.getElem?_cons_succ, Option.some.injEq, Prod.mk.injEq] at hi hk;obtain ⟨rfl, rfl, rfl⟩ := hi;subst hk;simp [eL, eT, ho]
theorem eL_tn (h : Hr) (f i j o n : Nat) (s : ByteArray) (t m : List By) (hi : h.ts[i]? = some (o, n, s)) (ho : ¬ o < fE f) : eL h f (i + 1) j t m = eL h f i j t m := by
 have h5 : i < 5 := (List.getElem?_eq_some_iff.1 hi).1;rcases five h5 with rfl | rfl | rfl | rfl | rfl <;>
 ·simp only [Hr.ts, List.getElem?_cons_zero, List.getElem?_cons_succ, Option.some.injEq, Prod.mk.injEq] at hi;obtain ⟨rfl, rfl, rfl⟩ := hi;simp [eL, eT, ho]
theorem eL_n (h : Hr) (f i j o n k : Nat) (x : Int) (bl : Bool) (t m : List By) (hi : h.ns[j]? = some (o, n, x, bl)) (hk : kN[j]? = some k) (ho : o < fE f) : eL h f i (j + 1) t m = (eL h f i j t m).set k (nL f x n) := by
 have h5 : j < 7 := (List.getElem?_eq_some_iff.1 hi).1;rcases seven h5 with rfl | rfl | rfl | rfl | rfl | rfl | rfl <;>
 ·simp only [Hr.ns, kN, List.getElem?_cons_zero, List.getElem?_cons_succ, Option.some.injEq, Prod.mk.injEq] at hi hk;obtain ⟨rfl, rfl, rfl, rfl⟩ := hi;subst hk;simp [eL, eN, ho]
theorem eL_nn (h : Hr) (f i j o n : Nat) (x : Int) (bl : Bool) (t m : List By) (hi : h.ns[j]? = some (o, n, x, bl)) (ho : ¬ o < fE f) : eL h f i (j + 1) t m = eL h f i j t m := by
 have h5 : j < 7 := (List.getElem?_eq_some_iff.1 hi).1;rcases seven h5 with rfl | rfl | rfl | rfl | rfl | rfl | rfl <;>
 ·simp only [Hr.ns, List.getElem?_cons_zero, List.getElem?_cons_succ, Option.some.injEq, Prod.mk.injEq] at hi;obtain ⟨rfl, rfl, rfl, rfl⟩ := hi;simp [eL, eN, ho]
theorem tOkI_step (h : Hr) (f i : Nat) (x : Nat × Nat × ByteArray) (hi : h.ts[i]? = some x) (H : tOkI h f i) (hx : tFit f x = true) : tOkI h f (i + 1) := fun k y hk hy => by
 by_cases e : k = i
 ·subst e; rw [hi] at hy; injection hy with hy; rw [← hy]; exact hx
 ·exact H k y (by omega) hy
theorem nOkI_step (h : Hr) (f j : Nat) (x : Nat × Nat × Int × Bool) (hi : h.ns[j]? = some x) (H : nOkI h f j) (hx : nFit f x = true) : nOkI h f (j + 1) := fun k y hk hy => by
 by_cases e : k = j
 ·subst e; rw [hi] at hy; injection hy with hy; rw [← hy]; exact hx
 ·exact H k y (by omega) hy
theorem tOkI_zero (h : Hr) (f : Nat) : tOkI h f 0 := fun k x hk _ => absurd hk (Nat.not_lt_zero k)
theorem nOkI_zero (h : Hr) (f : Nat) : nOkI h f 0 := fun k x hk _ => absurd hk (Nat.not_lt_zero k)
theorem fit_of (h : Hr) (f : Nat) (hT : tOkI h f 5) (hN : nOkI h f 7) : h.fit f = true := by
 unfold Hr.fit;rw [Bool.and_eq_true, List.all_eq_true, List.all_eq_true];refine ⟨fun x hx => ?_, fun x hx => ?_⟩
 ·obtain ⟨k, hk, e⟩ := List.getElem_of_mem hx;exact hT k x hk (by rw [List.getElem?_eq_getElem hk, e])
 ·obtain ⟨k, hk, e⟩ := List.getElem_of_mem hx;exact hN k x hk (by rw [List.getElem?_eq_getElem hk, e])
theorem fit_to (h : Hr) (f : Nat) (H : h.fit f = true) : tOkI h f 5 ∧ nOkI h f 7 := by
 unfold Hr.fit at H;rw [Bool.and_eq_true, List.all_eq_true, List.all_eq_true] at H;exact ⟨fun k x _ e => H.1 x (List.mem_of_getElem? e), fun k x _ e => H.2 x (List.mem_of_getElem? e)⟩
theorem fit_not_t (h : Hr) (f i : Nat) (x : Nat × Nat × ByteArray) (hi : h.ts[i]? = some x) (hx : tFit f x = false) : h.fit f = false := by
 rw [Bool.eq_false_iff];intro H;have h5 := (List.getElem?_eq_some_iff.1 hi).1;have := (fit_to h f H).1 i x h5 hi;rw [hx] at this; cases this
theorem fit_not_n (h : Hr) (f j : Nat) (x : Nat × Nat × Int × Bool) (hi : h.ns[j]? = some x) (hx : nFit f x = false) : h.fit f = false := by
 rw [Bool.eq_false_iff];intro H;have h5 := (List.getElem?_eq_some_iff.1 hi).1;have := (fit_to h f H).2 j x h5 hi;rw [hx] at this; cases this
theorem mg_length (f : Nat) : (mg f).length = 8 := by
 unfold mg;split
 ·rfl
 ·split <;> rfl
def isF (f : Nat) : Prop := f = 1 ∨ f = 2 ∨ f = 3
theorem fE_ge (f : Nat) : 257 ≤ fE f := by unfold fE; split; decide; split <;> decide
theorem tFit_of {f o n : Nat} {s : ByteArray} (h : pxE s n = 0) : tFit f (o, n, s) = true := by
 unfold tFit;rw [Bool.or_eq_true];exact .inr (decide_eq_true h)
theorem nFit_of {f o n : Nat} {x : Int} {bl : Bool} (h : nE f x n = 0) (h2 : 0 ≤ x ∨ bl = true) : nFit f (o, n, x, bl) = true := by
 unfold nFit;simp only [Bool.or_eq_true, Bool.and_eq_true, decide_eq_true_eq];exact .inr ⟨h, h2⟩
end Go.Proofs.YtlenihpbhlfcoaaGreatDoor
namespace Go.Proofs.YtlenihpbhlfcoaaGreatDoor
open Go.RowKit Go.ChangeMaps Go.MapKept
structure MT (κ ν : Type) where
 kt : TypeId
 et : TypeId
 mt : TypeId
 kv : κ → Value
 kl : κ → Lit
 kok : κ → Prop
 ev : ν → Value
 ed : ν → DataW Unit
 eok : ν → Prop
 zv : Value
 zd : DataW Unit
 R : Value → Option (DataW Unit × List MemPlace)
variable {κ ν : Type}
structure MT.Ok (M : MT κ ν) : Prop where
 keyed : Maps.Keyed Tryz.prog M.kt
 und : Tryz.prog.underlying M.mt = some (.map M.kt M.et)
 keq : ∀ k, M.kok k → keyOf Tryz.prog M.kt (M.kv k) = some (M.kl k)
 kinj : ∀ k k', M.kok k → M.kok k' → M.kl k = M.kl k' → k = k'
 eR : ∀ v, M.eok v → M.R (M.ev v) = some (M.ed v, [])
 einv : ∀ u v ps, M.eok v → M.R u = some (M.ed v, ps) → u = M.ev v
 zR : M.R M.zv = some (M.zd, [])
 zinv : ∀ u ps, M.R u = some (M.zd, ps) → u = M.zv
 zero : ∀ w, (zeroValue M.et).run Tryz.prog w = .ok M.zv w
variable {M : MT κ ν}
def Mp (M : MT κ ν) (b : Nat) (m : κ → Option ν) (n : Nat) (w : World) : Prop := ∃ D : DataW Unit, w.ownsMap Tryz.prog M.kt M.R b n D ∧ Maps.size D = n ∧ ∀ k, M.kok k → match m k with
 | none => Maps.has D (M.kl k) = false
 | some v => M.eok v ∧ Maps.has D (M.kl k) = true ∧ D.atKey (M.kl k) M.zd = M.ed v
theorem Fr.ownsMap {X : Nat → Prop} {w w' : World} (h : Fr X w w') (b : Nat) (hb : ¬ X b) : ∀ {P : Program} {k : TypeId} {R : Value → Option (DataW Unit × List MemPlace)} {n : Nat} {D : DataW Unit}, w.ownsMap P k R b n D → w'.ownsMap P k R b n D := by
 intro P k R n D ho;have hlt := ho.lt;obtain ⟨es, clock, hbk, F, hs, hD⟩ := ho;exact ⟨es, clock, (h.block b hlt hb).trans hbk, F, hs, hD⟩
variable {b : Nat} {m : κ → Option ν} {n : Nat} {w w' : World} {X : Nat → Prop}
theorem Mp.kept (h : Mp M b m n w) (f : Fr X w w') (hb : ¬ X b) : Mp M b m n w' := by
 obtain ⟨D, h1, h2⟩ := h;exact ⟨D, f.ownsMap b hb h1, h2⟩
theorem Mp.nw (h : Mp M b m n w) (f : Nw w w') : Mp M b m n w' := h.kept f (fun h => h)
theorem Mp.made (w : World) : Mp M w.heap.size (fun _ => none) 0 (w.alloc (.map #[] 0)) := ⟨.map [], World.ownsMap_made _ _ _ _, rfl, fun k hk => rfl⟩
theorem Mp.look (hM : M.Ok) (h : Mp M b m n w) (k : κ) (hk : M.kok k) : (Instr.lookup M.mt (.map (some b)) (M.kv k) true).run Tryz.prog w = .ok (.tuple #[(m k).elim M.zv M.ev, .bool (m k).isSome]) w := by
 obtain ⟨D, h1, _, h2⟩ := h;obtain ⟨v, ps, hrun, hv⟩ := h1.look_ok hM.keyed hM.und (hM.zero w) hM.zR (hM.keq k hk);have := h2 k hk;rw [hrun];cases hm : m k with
 | none =>
  rw [hm] at this;simp only at this;rw [Maps.atKey_of_not_has this] at hv;rw [this, hM.zinv v ps hv]; rfl
 | some q =>
  rw [hm] at this;simp only at this;rw [this.2.2] at hv;rw [this.2.1, hM.einv v q ps this.1 hv]; rfl
theorem Mp.look1 (hM : M.Ok) (h : Mp M b m n w) (k : κ) (hk : M.kok k) : (Instr.lookup M.mt (.map (some b)) (M.kv k) false).run Tryz.prog w = .ok ((m k).elim M.zv M.ev) w := by
 obtain ⟨D, h1, _, h2⟩ := h;obtain ⟨v, ps, hrun, hv⟩ := h1.lookup hM.keyed hM.und (hM.zero w) hM.zR (hM.keq k hk);have := h2 k hk;rw [hrun];cases hm : m k with
 | none =>
  rw [hm] at this;simp only at this;rw [Maps.atKey_of_not_has this] at hv;rw [hM.zinv v ps hv]; rfl
 | some q =>
  rw [hm] at this;simp only at this;rw [this.2.2] at hv;rw [hM.einv v q ps this.1 hv]; rfl
theorem Mp.store [DecidableEq κ] (hM : M.Ok) (h : Mp M b m n w) (k : κ) (hk : M.kok k) (v : ν) (hv : M.eok v) (hn : n ≤ 1000000000000000) : ∃ w', (Instr.mapUpdate M.mt (.map (some b)) (M.kv k) (M.ev v)).run Tryz.prog w = .ok () w' ∧ (∀ m', (∀ x, M.kok x → m' x = if x = k then some v else m x) → Mp M b m' (if (m k).isSome then n else n + 1) w') ∧ Fr (fun i => i = b) w w' := by
 obtain ⟨D, h1, h2, h3⟩ := h;obtain ⟨w', hrun, ho, hg⟩ := h1.update hM.keyed hM.und (by unfold maxLen; omega) (hM.keq k hk) (hM.eR v hv);have hkl := hM.keyed.key (hM.keq k hk);have hsz := Maps.size_put (k := M.kl k) (h1.tidy hM.keyed) (M.ed v);refine ⟨w', hrun, fun m' hm' => ⟨D.put (M.kl k) (M.ed v), ?_, ?_, fun x hx => ?_⟩, ⟨hg.os, hg.tape, hg.output, hg.size, fun i hi hne => hg.block i hi (fun e => hne (by injection e))⟩⟩
 ·obtain ⟨es, clock, q1, q2, q3, q4⟩ := ho;refine ⟨es, clock, q1, q2, ?_, q4⟩;have e1 : es.size = Maps.size (D.put (M.kl k) (M.ed v)) := by rw [q4]; simp [Maps.size, length_sorted]
  have := h3 k hk;rw [e1, hsz];cases hm : m k with
  | none => rw [hm] at this; simp only at this; rw [this]; simp; omega
  | some q => rw [hm] at this; simp only at this; rw [this.2.1]; simp; omega
 ·have := h3 k hk;rw [hsz];cases hm : m k with
  | none => rw [hm] at this; simp only at this; rw [this]; simp; omega
  | some q => rw [hm] at this; simp only at this; rw [this.2.1]; simp; omega
 ·rw [hm' x hx];by_cases hxe : x = k
  ·subst hxe;rw [if_pos rfl];exact ⟨hv, Maps.has_put_same h1.isMap hkl _, Maps.atKey_put_same h1.isMap hkl _ _⟩
  ·have hxk : M.kl x ≠ M.kl k := fun e => hxe (hM.kinj x k hx hk e)
   rw [if_neg hxe];have := h3 x hx;rw [Maps.has_put_other hxk];cases hm : m x with
   | none => rw [hm] at this; exact this
   | some p => rw [hm] at this; exact ⟨this.1, this.2.1, by rw [Maps.atKey_put_other hxk]; exact this.2.2⟩
end Go.Proofs.YtlenihpbhlfcoaaGreatDoor

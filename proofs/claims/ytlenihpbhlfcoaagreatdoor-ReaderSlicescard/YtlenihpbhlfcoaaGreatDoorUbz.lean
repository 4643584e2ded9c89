import Derived.Test.YtlenihpbhlfcoaaGreatDoorUby
import Derived.Test.YtlenihpbhlfcoaaGreatDoorUat
import Derived.Test.YtlenihpbhlfcoaaGreatDoorNkY
set_option maxHeartbeats 8000000
set_option maxRecDepth 100000
set_option linter.unusedSimpArgs false
set_option linter.unusedVariables false
namespace Go.Proofs.YtlenihpbhlfcoaaGreatDoor
open Go.RowKit Go.Shelf
attribute [local go_sem] Oper.semAt_some
structure Bel (mb B : Nat) (w w' : World) : Prop where
 os : w'.os = w.os
 tape : w'.tape = w.tape
 output : w'.output = w.output
 size : w.heap.size ≤ w'.heap.size
 block : ∀ k, k < B → k ≠ mb → w'.heap[k]? = w.heap[k]?
theorem Bel.refl (mb B : Nat) (w : World) : Bel mb B w w := ⟨rfl, rfl, rfl, Nat.le_refl _, fun _ _ _ => rfl⟩
theorem Bel.trans {mb B : Nat} {a b c : World} (h : Bel mb B a b) (k : Bel mb B b c) : Bel mb B a c :=
 ⟨k.os.trans h.os, k.tape.trans h.tape, k.output.trans h.output, Nat.le_trans h.size k.size, fun i hi hm => (k.block i hi hm).trans (h.block i hi hm)⟩
theorem Bel.of {mb B : Nat} {a b : World} (h : Below B a b) : Bel mb B a b := ⟨h.os, h.tape, h.output, h.size, fun i hi _ => h.block i hi⟩
theorem Bel.alloc {mb B : Nat} {a b : World} (h : Bel mb B a b) (hs : B ≤ b.heap.size) (o : Obj) : Bel mb B a (b.alloc o) := h.trans (Bel.of ((Below.refl B b).alloc hs o))
theorem Bel.cell {mb B : Nat} {a b : World} (h : Bel mb B a b) {p : Addr} (hp : p.block < B) (hm : p.block ≠ mb) : b.cell? p = a.cell? p := World.cell?_of_block (h.block p.block hp hm)
theorem Bel.fr {mb : Nat} {a b : World} (h : Bel mb a.heap.size a b) : Fr (fun k => k = mb) a b := ⟨h.os, h.tape, h.output, h.size, fun i hi hm => h.block i hi hm⟩
theorem turn1_in (n : Nat) (hn : 1 ≤ n) (lp Bs n₀ gl mb : Nat) (va vb : Value) (b a : List Pr) (hlen : b.length + a.length ≤ 1000000000) (hgl : gl < n₀) (hgm : gl ≠ mb) (J Jx : List Pr → World → Prop)
  (hA : ∀ pre W o, J pre W → J pre (W.alloc o))
  (hY : ∀ pre x W, J pre W → pre ++ [x] <+: b ++ a → YieldAt Fence.wide (n - 1) Tryz.prog lp #[.agg (prC x)] W fun e W' =>
   (e = .returned (.bool true) ∧ J (pre ++ [x]) W' ∧ Bel mb n₀ W W') ∨ (e = .returned (.bool false) ∧ Jx (pre ++ [x]) W'))
  (W : World) (hn0 : n₀ ≤ W.heap.size) (hBs : W.cell? ⟨Bs, 0, none⟩ = some (.slice (some ⟨gl, 0, none⟩) 2 2)) (h1 : W.cell? ⟨gl, 0, none⟩ = some va) (h2 : W.cell? ⟨gl, 1, none⟩ = some vb)
  (hb : ∀ V, Bel mb n₀ W V → SlR RP (fun _ => False) va b V) (ha : ∀ V, Bel mb n₀ W V → SlR RP (fun _ => False) vb a V) (h0 : J [] W) :
  CallsIn Fence.wide n Tryz.prog 120 #[.func (.yield lp) #[] #[], .pointer (some ⟨Bs, 0, none⟩)] W fun e W' => (∃ v, e = .returned v) ∧
   ((∃ ys, ys = b ++ a ∧ J ys W') ∨ (∃ pre, pre <+: b ++ a ∧ Jx pre W')) := by
 obtain ⟨ab, cb, rfl, kb1, kb2, _⟩ := (hb W (Bel.refl _ _ _)).form;obtain ⟨aa, ca, rfl, ka1, ka2, _⟩ := (ha W (Bel.refl _ _ _)).form;refine callsIn_of_wp Tryz.func120 rfl trivial ?_ rfl;simp only [Tryz.ntmps120, List.size_toArray, List.length_cons, List.length_nil, Nat.reduceAdd, Nat.reduceSub, Array.replicate_succ, Array.replicate_zero, List.push_toArray, List.append_toArray, List.nil_append, List.cons_append]
 gi_wp2
 gi_loopw [9] (fun i wr => ∃ (k : Nat), k ≤ 2 ∧ i = .int .i64 k ∧ J (([b, a].take k).flatten) wr ∧ Bel mb n₀ W wr)
  (fun i _ => 2 - (intOf i).toNat)
 case atStart => exact ⟨0, by omega, rfl, h0, Bel.refl _ _ _⟩
 case round =>
  obtain ⟨k, hk, rfl, hJs, hnx⟩ := hrel;have c0 := (hnx.cell (p := ⟨gl, 0, none⟩) hgl hgm).trans h1;have c1 := (hnx.cell (p := ⟨gl, 1, none⟩) hgl hgm).trans h2;rcases (show k = 0 ∨ k = 1 ∨ k = 2 by omega) with rfl | rfl | rfl
  ·have hJ0 : J (([] : List Pr)) wr := by simpa using hJs
   gi_wp2
   gi_loopw [15] (fun i wr2 => ∃ j : Nat, j ≤ b.length ∧ i = .int .i64 j ∧ J (([] : List Pr) ++ b.take j) wr2 ∧ Bel mb n₀ W wr2) (fun i _ => b.length - (intOf i).toNat)
   case atStart => exact ⟨0, Nat.zero_le _, rfl, by simpa using hJ0, hnx⟩
   case round =>
    obtain ⟨j, hj, rfl, hJj, hnj⟩ := hrel;by_cases hlt : j < b.length
    ·obtain ⟨g, o, rfl, _, q0, q1⟩ := rp_at (hb _ hnj) j hlt;have hJa := hA _ _ (.cells (prC b[j]) 56) hJj;obtain ⟨fn, tmps, assign, body, hy, hR⟩ := hY _ (b[j]) _ hJa (by rw [List.append_assoc, List.take_append_getElem, List.nil_append]; exact (List.take_prefix _ _).trans (List.prefix_append _ _));have hji : (j : Int) < (b.length : Int) := by omega
     have hsj := hnj.size;have htk : ([] : List Pr) ++ b.take j ++ [b[j]] = ([] : List Pr) ++ b.take (j + 1) := by rw [List.append_assoc, List.take_append_getElem]
     dsimp only [prC] at hy hR
     gi_wp2
     refine hR.mono ?_;rintro e W3 (⟨rfl, hJ3, hk3⟩ | ⟨rfl, hJx3⟩)
     ·rw [htk] at hJ3
      gi_wp2
      go_roundw
      case rel => exact ⟨_, _, _, _, _, _, _, _, _, _, ⟨j + 1, by omega, by first | rfl | simp, hJ3, (hnj.alloc (by omega) _).trans hk3⟩, rfl⟩
      case measure => first | (simp [intOf]; done) | (simp [intOf]; omega)
     ·rw [htk] at hJx3
      gi_wp2
      refine bodyPost_ret (results_none rfl _ _ _) rfl ?_;exact ⟨⟨_, rfl⟩, .inr ⟨_, ((List.nil_append (b.take (j + 1))).symm ▸ (List.take_prefix _ _).trans (List.prefix_append _ _)), hJx3⟩⟩
    ·obtain rfl : j = b.length := by omega
     rw [List.take_length] at hJj
     gi_wp2
     go_roundw
     case rel => exact ⟨1, by omega, by first | rfl | simp, by simpa using hJj, hnj⟩
     case measure => first | (simp [intOf]; done) | (simp [intOf]; omega)
  ·have hJ0 : J (b) wr := by simpa using hJs
   gi_wp2
   gi_loopw [15] (fun i wr2 => ∃ j : Nat, j ≤ a.length ∧ i = .int .i64 j ∧ J (b ++ a.take j) wr2 ∧ Bel mb n₀ W wr2) (fun i _ => a.length - (intOf i).toNat)
   case atStart => exact ⟨0, Nat.zero_le _, rfl, by simpa using hJ0, hnx⟩
   case round =>
    obtain ⟨j, hj, rfl, hJj, hnj⟩ := hrel;by_cases hlt : j < a.length
    ·obtain ⟨g, o, rfl, _, q0, q1⟩ := rp_at (ha _ hnj) j hlt;have hJa := hA _ _ (.cells (prC a[j]) 56) hJj;obtain ⟨fn, tmps, assign, body, hy, hR⟩ := hY _ (a[j]) _ hJa (by rw [List.append_assoc, List.take_append_getElem]; exact (List.prefix_append_right_inj _).2 (List.take_prefix _ _));have hji : (j : Int) < (a.length : Int) := by omega
     have hsj := hnj.size;have htk : b ++ a.take j ++ [a[j]] = b ++ a.take (j + 1) := by rw [List.append_assoc, List.take_append_getElem]
     dsimp only [prC] at hy hR
     gi_wp2
     refine hR.mono ?_;rintro e W3 (⟨rfl, hJ3, hk3⟩ | ⟨rfl, hJx3⟩)
     ·rw [htk] at hJ3
      gi_wp2
      go_roundw
      case rel => exact ⟨_, _, _, _, _, _, _, _, _, _, ⟨j + 1, by omega, by first | rfl | simp, hJ3, (hnj.alloc (by omega) _).trans hk3⟩, rfl⟩
      case measure => first | (simp [intOf]; done) | (simp [intOf]; omega)
     ·rw [htk] at hJx3
      gi_wp2
      refine bodyPost_ret (results_none rfl _ _ _) rfl ?_;exact ⟨⟨_, rfl⟩, .inr ⟨_, (List.prefix_append_right_inj _).2 (List.take_prefix _ _), hJx3⟩⟩
    ·obtain rfl : j = a.length := by omega
     rw [List.take_length] at hJj
     gi_wp2
     go_roundw
     case rel => exact ⟨2, by omega, by first | rfl | simp, by simpa using hJj, hnj⟩
     case measure => first | (simp [intOf]; done) | (simp [intOf]; omega)
  ·gi_wp2
   go_end0
   exact ⟨⟨_, rfl⟩, .inl ⟨_, by simp, hJs⟩⟩
theorem turn_in (n : Nat) (a : Option Addr) (len cap : Nat) (w : World) :
  CallsIn Fence.wide n Tryz.prog 97 #[.slice a len cap] w fun e w' => e = .returned (.func (.func 120) #[] #[.pointer (some ⟨w.heap.size, 0, none⟩)]) ∧ w' = w.alloc (.cells #[.slice a len cap] 197) := by
 refine callsIn_of_wp Tryz.func97 rfl trivial ?_ rfl;simp only [Tryz.ntmps97, List.size_toArray, List.length_cons, List.length_nil, Nat.reduceAdd, Nat.reduceSub, Array.replicate_succ, Array.replicate_zero, List.push_toArray, List.append_toArray, List.nil_append, List.cons_append]
 gi_wp2
 go_ret
 exact ⟨rfl, rfl⟩
abbrev PrS := { x : Pr // x.1.length ≤ 140737488351232 }
theorem turn_stops (n : Nat) (hn : 1 ≤ n) (Bs gl mb : Nat) (hgm : gl ≠ mb) (va vb : Value) (b a : List Pr) (hlen : b.length + a.length ≤ 1000000000) (hk : ∀ x ∈ b ++ a, x.1.length ≤ 140737488351232) (w : World) (hBs : Bs < w.heap.size) (hgl : gl < w.heap.size) (hc : w.cell? ⟨Bs, 0, none⟩ = some (.slice (some ⟨gl, 0, none⟩) 2 2)) (h1 : w.cell? ⟨gl, 0, none⟩ = some va) (h2 : w.cell? ⟨gl, 1, none⟩ = some vb)
  (hb : ∀ V, Fr (fun k => k = mb) w V → SlR RP (fun _ => False) va b V) (ha : ∀ V, Fr (fun k => k = mb) w V → SlR RP (fun _ => False) vb a V) :
  SeqStopsK Fence.wide n Tryz.prog 120 #[.pointer (some ⟨Bs, 0, none⟩)] (fun x : PrS => #[.agg (prC x.1)]) (Bel mb w.heap.size) (fun ys => ys.map Subtype.val = b ++ a) (fun pre => pre.map Subtype.val <+: b ++ a) (b.length + a.length) w := fun lp J Jx W hW hJ _ hY h0 => by
 have := turn1_in n hn lp Bs w.heap.size gl mb va vb b a hlen hgl hgm (fun pre W => ∃ pre' : List PrS, pre'.map Subtype.val = pre ∧ J pre' W) (fun pre W => ∃ pre' : List PrS, pre'.map Subtype.val = pre ∧ Jx pre' W)
  (fun pre W' o ⟨pre', e, hj⟩ => ⟨pre', e, hJ pre' W' _ none hj (World.grownBy_alloc W' o none) (fun r e => by cases e)⟩)
  (fun pre x W' ⟨pre', e, hj⟩ hp => by
   subst e;have hx : x ∈ b ++ a := hp.subset (by simp);have hl : pre'.length < b.length + a.length := by
    have := hp.length_le;simp at this;omega
   obtain ⟨fn, tmps, assign, body, hy, hR⟩ := hY pre' ⟨x, hk x hx⟩ W' hj hl;refine ⟨fn, tmps, assign, body, hy, hR.mono ?_⟩;rintro e W3 (⟨rfl, hJ3, hk3⟩ | ⟨rfl, hJx3⟩)
   ·exact .inl ⟨rfl, ⟨_, by simp, hJ3⟩, hk3⟩
   ·exact .inr ⟨rfl, _, by simp, hJx3⟩)
  W hW.size ((hW.cell (p := ⟨Bs, 0, none⟩) hBs).trans hc) ((hW.cell (p := ⟨gl, 0, none⟩) hgl).trans h1) ((hW.cell (p := ⟨gl, 1, none⟩) hgl).trans h2)
  (fun V hV => hb V ((Bel.of hW).trans hV).fr) (fun V hV => ha V ((Bel.of hW).trans hV).fr) ⟨[], rfl, h0⟩
 refine this.mono ?_;rintro e W' ⟨he, ⟨ys, rfl, ys', e1, hj⟩ | ⟨pre, hp, pre', e1, hj⟩⟩
 ·exact ⟨he, .inl ⟨ys', e1, hj⟩⟩
 ·exact ⟨he, .inr ⟨pre', (by rw [e1]; exact hp : pre'.map Subtype.val <+: b ++ a), hj⟩⟩
end Go.Proofs.YtlenihpbhlfcoaaGreatDoor
namespace Go.Proofs.YtlenihpbhlfcoaaGreatDoor
open Go.RowKit
theorem mem_merge (b a : List Pr) (y : Pr) : y ∈ mergeV b a ↔ fndV (b ++ a) y.1 = some y.2 ∧ y.2 ≠ [] := by
 have := (mrg_spec (b ++ a) [] List.Pairwise.nil (fun y h => by simp at h)).2 y;unfold mergeV;rw [this];simp
theorem merge_rise (b a : List Pr) : Rise (mergeV b a) := (mrg_spec (b ++ a) [] List.Pairwise.nil (fun y h => by simp at h)).1
theorem fnd_app (b a : List Pr) (k : Bs) : fndV (b ++ a) k = (fndV a k).or (fndV b k) := by
 have := fnd_from a k (fndV b k);rw [← this];unfold fndV;rw [List.foldl_append]
theorem fnd_mem (l : List Pr) (k v : Bs) (h : fndV l k = some v) : (k, v) ∈ l := by
 induction l with
 | nil => simp [fndV] at h
 | cons x r ih =>
  rw [fnd_cons] at h;cases hf : fndV r k with
  | some u =>
   rw [hf] at h;injection h with h;subst h;exact List.mem_cons_of_mem _ (ih hf)
  | none =>
   rw [hf, Option.none_or] at h;split at h
   ·rename_i hk;injection h with h;rw [List.mem_cons];exact .inl (Prod.ext hk.symm h.symm)
   ·cases h
theorem fnd_rise (l : List Pr) (hr : Rise l) (k v : Bs) : fndV l k = some v ↔ (k, v) ∈ l := by
 refine ⟨fnd_mem l k v, fun h => ?_⟩
 induction l with
 | nil => simp at h
 | cons x r ih =>
  obtain ⟨r1, r2⟩ := List.pairwise_cons.1 hr;rw [fnd_cons];rcases List.mem_cons.1 h with e | e
  ·subst e;have : fndV r k = none := (fnd_none r k).2 (fun y hy e => by
    have := r1 y hy;rw [e] at this;exact lt_ir _ this)
   rw [this, if_pos rfl];rfl
  ·rw [ih r2 e];rfl
theorem fnd_merge (b a : List Pr) (k v : Bs) : fndV (mergeV b a) k = some v ↔ ((fndV a k).or (fndV b k) = some v ∧ v ≠ []) := by
 rw [fnd_rise _ (merge_rise b a), mem_merge, fnd_app]
theorem str_bysK (s : ByteArray) : str (bys s) = s := by
 apply ByteArray.ext
 apply Array.ext'
 show (bys s).map u8 = s.data.toList;unfold bys;rw [List.map_map]
 conv => rhs; rw [← List.map_id s.data.toList]
 apply List.map_congr_left
 intro x _;simp only [Function.comp, id];apply UInt8.toNat_inj.1;rw [u8_nat, BitVec.toNat_ofNat];have := x.toNat_lt;omega
end Go.Proofs.YtlenihpbhlfcoaaGreatDoor
namespace Go.Proofs.YtlenihpbhlfcoaaGreatDoor
open Go.RowKit Go.ChangeMaps Go.MapKept
def Rpr : Value → Option (DataW Unit × List MemPlace)
 | .agg cs => match cs.toList with
  | [.string a, .string b] => some (.agg [.lit (.string a.toList), .lit (.string b.toList)], [])
  | _ => none
 | _ => none
theorem bs_of (a : ByteArray) (l : Bs) (h : a.toList = (str l).toList) : a = str l := by
 rw [← str_bysK a] at h;rw [← strL_inj h, str_bysK]
theorem Rpr_inv {u : Value} {p : Pr} {ps : List MemPlace} (h : Rpr u = some (.agg [.lit (.string (str p.1).toList), .lit (.string (str p.2).toList)], ps)) : u = .agg (prC p) := by
 unfold Rpr at h;split at h
 ·rename_i cs;split at h
  ·rename_i a b hcs;simp only [Option.some.injEq, Prod.mk.injEq] at h;obtain ⟨h, _⟩ := h;injection h with h;injection h with h1 h2;injection h2 with h2 _;injection h1 with h1;injection h1 with h1;injection h2 with h2;injection h2 with h2;have : cs = #[.string a, .string b] := by
    apply Array.ext'
    rw [hcs]
   rw [this, bs_of a p.1 h1, bs_of b p.2 h2];rfl
  ·cases h
 ·cases h
def MP : MT Bs Pr := { kt := 9, et := 56, mt := 157, kv := fun k => .string (str k), kl := fun k => .string (str k).toList, kok := fun k => k.length ≤ 140737488351232, ev := fun p => .agg (prC p), ed := fun p => .agg [.lit (.string (str p.1).toList), .lit (.string (str p.2).toList)], eok := fun _ => True, zv := .agg (prC ([], [])), zd := .agg [.lit (.string (str ([] : Bs)).toList), .lit (.string (str ([] : Bs)).toList)], R := Rpr }
theorem mpOk : MP.Ok where
 keyed := Maps.string_keyed Tryz.underlying9
 und := Tryz.underlying157
 keq := fun k hk => by
  have := WideMaps.keyOf_string_mk (P := Tryz.prog) (k := 9) Tryz.underlying9 (s := str k) (by rw [str_size]; simp only [MP] at hk; unfold maxLen; omega);have e : (str k).toList = (str k).data.toList := ByteArray.toList_eq _;show keyOf Tryz.prog 9 (.string (str k)) = some (.string (str k).toList);rw [e];exact this
 kinj := fun k k' _ _ h => by
  simp only [MP] at h;injection h with h;exact strL_inj h
 eR := fun v hv => rfl
 einv := fun u v ps _ h => Rpr_inv h
 zR := rfl
 zinv := fun u ps h => Rpr_inv (p := ([], [])) h
 zero := fun w => by kernel_rfl
def mpV (l : List Pr) (k : Bs) : Option Pr := (fndV l k).map (fun v => (k, v))
theorem fnd_snoc (l : List Pr) (x : Pr) (k : Bs) : fndV (l ++ [x]) k = if k = x.1 then some x.2 else fndV l k := by
 rw [fnd_app, fnd_cons];by_cases h : x.1 = k
 ·rw [if_pos h, if_pos h.symm]; rfl
 ·rw [if_neg h, if_neg (fun e => h e.symm)]; rfl
theorem mpV_snoc (l : List Pr) (x : Pr) (k : Bs) : mpV (l ++ [x]) k = if k = x.1 then some x else mpV l k := by
 unfold mpV;rw [fnd_snoc];by_cases h : k = x.1
 ·rw [if_pos h, if_pos h, h]; rfl
 ·rw [if_neg h, if_neg h]
def dk (l : List Pr) : List Bs := l.foldl (fun a x => if x.1 ∈ a then a else a ++ [x.1]) []
theorem dk_snoc (l : List Pr) (x : Pr) : dk (l ++ [x]) = if x.1 ∈ dk l then dk l else dk l ++ [x.1] := by
 unfold dk;rw [List.foldl_append];rfl
theorem snoc_ind {p : List Pr → Prop} (h0 : p []) (h1 : ∀ l x, p l → p (l ++ [x])) (l : List Pr) : p l := by
 have : ∀ n (l : List Pr), l.length = n → p l := fun n => by
  induction n with
  | zero => intro l hl; rw [List.eq_nil_of_length_eq_zero hl]; exact h0
  | succ n ih =>
   intro l hl;have hne : l ≠ [] := fun e => by rw [e] at hl; simp at hl
   rw [← List.dropLast_concat_getLast hne];exact h1 _ _ (ih _ (by rw [List.length_dropLast]; omega))
 exact this _ l rfl
theorem dk_mem (l : List Pr) (k : Bs) : k ∈ dk l ↔ (fndV l k).isSome = true := by
 induction l using snoc_ind with
 | h0 => simp [dk, fndV]
 | h1 l x ih =>
  rw [dk_snoc, fnd_snoc];by_cases hk : k = x.1
  ·subst hk;rw [if_pos rfl];simp only [Option.isSome_some, iff_true];split
   ·assumption
   ·simp
  ·rw [if_neg hk, ← ih];split
   ·exact Iff.rfl
   ·simp [hk]
theorem dk_nodup (l : List Pr) : (dk l).Nodup := by
 induction l using snoc_ind with
 | h0 => simp [dk]
 | h1 l x ih =>
  rw [dk_snoc];split
  ·exact ih
  ·rename_i h;rw [List.nodup_append];exact ⟨ih, by simp, fun a ha b hb e => by rw [List.mem_singleton] at hb; subst hb; subst e; exact h ha⟩
theorem dk_len (l : List Pr) (x : Pr) : (dk (l ++ [x])).length = if (mpV l x.1).isSome = true then (dk l).length else (dk l).length + 1 := by
 rw [dk_snoc];unfold mpV;rw [Option.isSome_map];by_cases h : x.1 ∈ dk l
 ·rw [if_pos h, if_pos ((dk_mem l x.1).1 h)]
 ·rw [if_neg h, if_neg (fun e => h ((dk_mem l x.1).2 e))];simp
theorem dk_le (l : List Pr) : (dk l).length ≤ l.length := by
 induction l using snoc_ind with
 | h0 => simp [dk]
 | h1 l x ih =>
  rw [dk_snoc];split
  ·simp; omega
  ·simp; omega
theorem mem_key (l : List Pr) (k : Bs) (h : k ∈ dk l) : ∃ x ∈ l, x.1 = k := by
 rw [dk_mem, Option.isSome_iff_exists] at h;obtain ⟨v, hv⟩ := h;exact ⟨_, fnd_mem l k v hv, rfl⟩
def MpL (mb : Nat) (l : List Pr) (w : World) : Prop := Mp MP mb (mpV l) (dk l).length w
theorem MpL.store {mb : Nat} {l : List Pr} {w : World} (h : MpL mb l w) (x : Pr) (hx : x.1.length ≤ 140737488351232) (hl : l.length ≤ 1000000000) : ∃ w', (Instr.mapUpdate 157 (.map (some mb)) (.string (str x.1)) (.agg (prC x))).run Tryz.prog w = .ok () w' ∧ MpL mb (l ++ [x]) w' ∧ Fr (fun i => i = mb) w w' := by
 have hd := dk_le l;obtain ⟨w', h1, h2, h3⟩ := Mp.store mpOk h x.1 hx x trivial (by omega);refine ⟨w', h1, ?_, h3⟩;have := h2 (mpV (l ++ [x])) (fun k _ => mpV_snoc l x k);rw [← dk_len] at this;exact this
theorem MpL.look {mb : Nat} {l : List Pr} {w : World} (h : MpL mb l w) (k : Bs) (hk : k.length ≤ 140737488351232) (v : Bs) (hv : fndV l k = some v) : (Instr.lookup 157 (.map (some mb)) (.string (str k)) false).run Tryz.prog w = .ok (.agg (prC (k, v))) w := by
 have := Mp.look1 mpOk h k hk;have e : mpV l k = some (k, v) := by unfold mpV; rw [hv]; rfl
 rw [e] at this;exact this
theorem MpL.kept {mb : Nat} {l : List Pr} {w w' : World} {X : Nat → Prop} (h : MpL mb l w) (f : Fr X w w') (hx : ¬ X mb) : MpL mb l w' := Mp.kept h f hx
theorem mpL_made (w : World) : MpL w.heap.size [] (w.alloc (.map #[] 0)) := Mp.made (M := MP) w
theorem coverP {α : Type} [DecidableEq α] : ∀ (l1 l2 : List α), l1.Nodup → (∀ x ∈ l1, x ∈ l2) → l2.length ≤ l1.length → ∀ x ∈ l2, x ∈ l1
 | [], l2, _, _, h, x, hx => by
  have : l2 = [] := List.eq_nil_of_length_eq_zero (by simpa using h);rw [this] at hx; cases hx
 | a :: t, l2, hn, hs, h, x, hx => by
  have ha : a ∈ l2 := hs a (by simp);obtain ⟨hat, hn⟩ := List.nodup_cons.1 hn;by_cases hxa : x = a
  ·rw [hxa]; simp
  ·refine List.mem_cons_of_mem _ (coverP t (l2.erase a) hn (fun y hy => ?_) ?_ x ?_)
   ·exact (List.mem_erase_of_ne (by rintro rfl; exact hat hy)).2 (hs y (List.mem_cons_of_mem _ hy))
   ·rw [List.length_erase_of_mem ha]; simp only [List.length_cons] at h; omega
   ·exact (List.mem_erase_of_ne hxa).2 hx
theorem mpL_cov {mb : Nat} {l : List Pr} {w : World} (h : MpL mb l w) (hk : ∀ x ∈ l, x.1.length ≤ 140737488351232) : ∃ D : DataW Unit, w.ownsMap Tryz.prog 9 Rpr mb (dk l).length D ∧ Maps.size D = (dk l).length ∧ (∀ kl, Maps.has D kl = true ↔ ∃ k ∈ dk l, Lit.string (str k).toList = kl) := by
 obtain ⟨D, h1, h2, h3⟩ := h;have hok : ∀ k ∈ dk l, k.length ≤ 140737488351232 := fun k hkd => by
  obtain ⟨x, hx, rfl⟩ := mem_key l k hkd;exact hk x hx
 have hin : ∀ k ∈ dk l, Maps.has D (.string (str k).toList) = true := fun k hkd => by
  have := h3 k (hok k hkd);rw [dk_mem, Option.isSome_iff_exists] at hkd;obtain ⟨v, hv⟩ := hkd;have e : mpV l k = some (k, v) := by unfold mpV; rw [hv]; rfl
  rw [e] at this;exact this.2.1
 refine ⟨D, h1, h2, fun kl => ⟨fun hkl => ?_, fun ⟨x, hx, e⟩ => by rw [← e]; exact hin x hx⟩⟩;obtain ⟨E, rfl, hp, hkE⟩ := h1.entries mpOk.keyed;obtain ⟨p, hpE, hpk⟩ := List.any_eq_true.1 hkl;have hpe := WideAt.sameKey_eq hpk;haveI : DecidableEq Lit := fun a c => Classical.propDecidable (a = c)
 have hc := coverP ((dk l).map (fun k => Lit.string (str k).toList)) (E.map Prod.fst) ?_ ?_ ?_ p.1 (List.mem_map.2 ⟨p, hpE, rfl⟩)
 ·obtain ⟨x, hx, e⟩ := List.mem_map.1 hc;exact ⟨x, hx, e.trans hpe⟩
 ·have := dk_nodup l;rw [List.nodup_iff_pairwise_ne] at this ⊢;rw [List.pairwise_map];exact this.imp (fun {x y} hne e => hne (strL_inj (by injection e)))
 ·intro kl2 hk2;obtain ⟨x, hx, rfl⟩ := List.mem_map.1 hk2;obtain ⟨p2, hp2, hpk2⟩ := List.any_eq_true.1 (hin x hx);exact List.mem_map.2 ⟨p2, hp2, WideAt.sameKey_eq hpk2⟩
 ·have : E.length = (dk l).length := h2;simp only [List.length_map]; rw [this]; exact Nat.le_refl _
theorem keysP_call (mo : Option Nat) (w : World) : Calls Tryz.prog 99 #[.map mo] w fun e w' => e = .returned (.func (.func 123) #[] #[.pointer (some ⟨w.heap.size, 0, none⟩)]) ∧ w.alloc (.cells #[.map mo] 157) = w' := by
 refine (callsIn_wide (n := 5)).1 ?_;refine (AnyZ.keys_in layKeysA Fence.wide 5 trivial rfl mo w).mono ?_;rintro e w' ⟨rfl, rfl⟩;exact ⟨rfl, rfl⟩
theorem sortsP (k : Nat) : AnyZ.SortsIn Tryz.prog laySortedA_ren Fence.wide k :=
 ⟨fun blk off cap ss W hH hblk hsz => callsIn_wide.2 (AnyM.slices_Sort_string laySortA blk off cap ss W hH hblk hsz),
  fun p cap W => callsIn_wide.2 (AnyM.slices_Sort_string_none laySortA p cap W)⟩
def KsP (w : World) (l : List Pr) (e : Ending) (w' : World) : Prop := ∃ (sk : List Bs) (a : Option Addr) (c : Nat), e = .returned (.slice a sk.length c) ∧ sk.length ≤ c ∧ c < 9223372036854775808 ∧ Nw w w' ∧ sk.Pairwise (fun x y => (str x).toList < (str y).toList) ∧ (∀ k, k ∈ sk ↔ k ∈ dk l) ∧ sk.length ≤ l.length ∧
 (∀ i (hi : i < sk.length), ∃ g, a = some ⟨g, 0, none⟩ ∧ w.heap.size ≤ g ∧ w'.cell? ⟨g, i, none⟩ = some (.string (str sk[i])))
theorem sortedP_call {mb : Nat} {l : List Pr} {w : World} (h : MpL mb l w) (hk : ∀ x ∈ l, x.1.length ≤ 140737488351232) (hn : l.length ≤ 1000000000) :
  Calls Tryz.prog 98 #[.func (.func 123) #[] #[.pointer (some ⟨w.heap.size, 0, none⟩)]] (w.alloc (.cells #[.map (some mb)] 157)) (KsP w l) := by
 obtain ⟨D, h1, h2, h3⟩ := mpL_cov h hk;have hdl := dk_le l;have hbl := h1.lt;refine (callsIn_wide (n := 5)).1 ?_;have hseq : SeqGives Fence.wide 2 Tryz.prog 123 #[.pointer (some ⟨w.heap.size, 0, none⟩)] encStr (fun ss => ss.Perm (strKeys D)) (Maps.size D) (w.alloc (.cells #[.map (some mb)] 157)) :=
  AnyZ.keys_gives (ρ := layKeysA_ren) { layKeysA with } Fence.wide _ trivial rfl (by omega) w.heap.size mb (dk l).length D _ (by simp) (by simp) (by
   obtain ⟨E, clock, hb, Ft, hs, hD⟩ := h1;exact ⟨E, clock, (Below.heap_alloc _ _ mb hbl).trans hb, Ft, hs, hD⟩)
 have cS := AnyZ.sorted_in laySortedA Fence.wide 5 trivial trivial trivial trivial rfl (by omega) (sortsP _) (enters_of Tryz.func122 (by kernel_rfl) rfl) 123 #[.pointer (some ⟨w.heap.size, 0, none⟩)] trivial (enters_of Tryz.func123 (by kernel_rfl) rfl) _ _ (by rw [h2]; unfold maxLen; omega) (by rw [h2]; omega) _ hseq;refine cS.mono ?_;rintro e w' ⟨v, ss, rfl, hS, hrow, hnil, hb⟩;obtain ⟨E, rfl, hp, hkE⟩ := h1.entries mpOk.keyed;have hkl : ∀ p ∈ E, ∃ x, p.1 = .string x := fun p hp' => by
  obtain ⟨x, hx, e⟩ := (h3 p.1).1 (List.any_eq_true.2 ⟨p, hp', WideAt.sameKey_self (hkE p hp')⟩);exact ⟨_, e.symm⟩
 have hnd : ((dk l).map (fun k => (str k).toList)).Nodup := by
  have := dk_nodup l;rw [List.nodup_iff_pairwise_ne] at this ⊢;rw [List.pairwise_map];exact this.imp (fun {x y} hne e => hne (strL_inj e))
 have hperm : ((dk l).map (fun k => (str k).toList)).Perm (strKeys (.map E)) := by
  refine perm_strKeys hp hkl hnd (fun x => ?_);rw [h3];constructor
  ·intro hx;obtain ⟨y, hy, rfl⟩ := List.mem_map.1 hx;exact ⟨y, hy, rfl⟩
  ·rintro ⟨y, hy, e⟩;injection e with e;exact List.mem_map.2 ⟨y, hy, e⟩
 obtain ⟨ks, hks⟩ : ∃ ks, ss.mergeSort (fun x y => decide (x ≤ y)) = ks := ⟨_, rfl⟩;have hkp : ks.Perm ((dk l).map (fun k => (str k).toList)) := hks ▸ (List.mergeSort_perm _ _).trans (hS.trans hperm.symm);have hle : ks.Pairwise (fun x y => x ≤ y) := by
  rw [← hks];exact (List.pairwise_mergeSort (fun a b c h1 h2 => by simp at *; exact List.le_trans h1 h2) (fun a b => by simp; exact List.le_total a b) ss).imp (fun {x y} h => by simpa using h)
 have hlt : ks.Pairwise (fun x y => x < y) := by
  have hn2 := hkp.symm.nodup hnd;rw [List.nodup_iff_pairwise_ne] at hn2;exact (hle.and hn2).imp (fun {x y} ⟨h1, h2⟩ => by
   by_cases h3 : x < y
   ·exact h3
   ·exact absurd (List.le_antisymm h1 (List.not_lt.1 h3)) h2)
 rw [hks] at hrow;have hl : ss.length = ks.length := by rw [← hks, List.length_mergeSort]
 have hlk : ks.length = (dk l).length := by rw [hkp.length_eq, List.length_map]
 have hN : Nw w w' := ⟨hb.os, hb.tape, hb.output, by have := hb.size; simp at this; omega, fun k hk _ => (hb.block k (by simp; omega)).trans ((Below.heap_alloc _ _ k hk))⟩;obtain ⟨sk, hsk⟩ : ∃ sk : List Bs, sk.map (fun k => (str k).toList) = ks := ⟨ks.map (fun x => bys ⟨x.toArray⟩), by
  rw [List.map_map]
  conv => rhs; rw [← List.map_id ks]
  apply List.map_congr_left
  intro x _;simp only [Function.comp, id];rw [str_bysK, ByteArray.toList_eq]⟩
 have hsl : sk.length = ks.length := by rw [← hsk, List.length_map]
 have hrise : sk.Pairwise (fun x y => (str x).toList < (str y).toList) := by
  rw [← hsk, List.pairwise_map] at hlt;exact hlt
 have hmem : ∀ k, k ∈ sk ↔ k ∈ dk l := fun k => by
  constructor
  ·intro hk1;have : (str k).toList ∈ ks := by rw [← hsk]; exact List.mem_map.2 ⟨k, hk1, rfl⟩
   obtain ⟨y, hy, e⟩ := List.mem_map.1 (hkp.mem_iff.1 this);rw [← strL_inj e]; exact hy
  ·intro hk1;have : (str k).toList ∈ ks := hkp.mem_iff.2 (List.mem_map.2 ⟨k, hk1, rfl⟩);rw [← hsk] at this;obtain ⟨y, hy, e⟩ := List.mem_map.1 this;rw [← strL_inj e]; exact hy
 rcases hrow.2 with ⟨rfl, hz⟩ | ⟨g, cap, cur, rfl, g1, g2, g3, g4, g5, g6⟩
 ·have hz' : sk.length = 0 := by omega
  exact ⟨sk, none, 0, by rw [hz'], by omega, by omega, hN, hrise, hmem, by omega, fun i hi => by omega⟩
 ·rw [hl, ← hsl] at g3 g6 ⊢;refine ⟨sk, some ⟨g, 0, none⟩, cap, rfl, g3, by unfold maxLen at g4; omega, hN, hrise, hmem, by omega, fun i hi => ⟨g, rfl, by simp at g1; omega, ?_⟩⟩;have : (cur.toList.take (sk.length * 1))[i]? = (ks.map encStr)[i]? := by rw [g6]
  rw [List.getElem?_take, if_pos (by omega), List.getElem?_map, ← hsk, List.getElem?_map, List.getElem?_eq_getElem hi] at this;unfold World.cell?;rw [g2]
  simpa [encStr, ByteArray.toList_eq] using this
end Go.Proofs.YtlenihpbhlfcoaaGreatDoor

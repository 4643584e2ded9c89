import Derived.Test.YtlenihpbhlfcoaaGreatDoorUaa
set_option maxHeartbeats 8000000
set_option maxRecDepth 100000
set_option linter.unusedSimpArgs false
set_option linter.unusedVariables false
namespace Go.Proofs.YtlenihpbhlfcoaaGreatDoor
open Go.RowKit
structure RT (α : Type) where
 enc : α → List Value
 k : Nat
 T : Nat
 TS : Nat
 z : α
 by_ : Nat
variable {α : Type}
structure RT.Ok (R : RT α) : Prop where
 len : ∀ x, (R.enc x).length = R.k
 kp : 0 < R.k
 one : ∀ x, ∀ v ∈ R.enc x, v.oneCell' = true
 und : Tryz.prog.underlying R.TS = some (.slice R.T)
 info : ∃ i zv, Tryz.prog.info? R.T = some i ∧ i.zero = some zv ∧ i.size = R.k ∧ i.bytes = R.by_ ∧ zv.cells = (R.enc R.z).toArray
def flatR (R : RT α) : List α → List Value
 | [] => []
 | x :: r => R.enc x ++ flatR R r
variable {R : RT α}
theorem flatR_length (h : R.Ok) (xs : List α) : (flatR R xs).length = xs.length * R.k := by
 induction xs with
 | nil => simp [flatR]
 | cons x r ih => rw [flatR, List.length_append, h.len, ih, List.length_cons, Nat.add_mul, Nat.one_mul, Nat.add_comm]
theorem flatR_append (xs ys : List α) : flatR R (xs ++ ys) = flatR R xs ++ flatR R ys := by
 induction xs with
 | nil => rfl
 | cons x r ih => simp [flatR, ih]
theorem flatR_take (h : R.Ok) (xs : List α) (n : Nat) (hn : n ≤ xs.length) : (flatR R xs).take (n * R.k) = flatR R (xs.take n) := by
 conv => lhs; rw [← List.take_append_drop n xs, flatR_append]
 exact List.take_left' (by rw [flatR_length h, List.length_take, Nat.min_eq_left hn])
theorem flatR_drop (h : R.Ok) (xs : List α) (n : Nat) (hn : n ≤ xs.length) : (flatR R xs).drop (n * R.k) = flatR R (xs.drop n) := by
 conv => lhs; rw [← List.take_append_drop n xs, flatR_append]
 exact List.drop_left' (by rw [flatR_length h, List.length_take, Nat.min_eq_left hn])
theorem flatR_at (h : R.Ok) (xs : List α) (i j : Nat) (x : α) (v : Value) (hq : xs[i]? = some x) (hv : (R.enc x)[j]? = some v) : (flatR R xs)[i * R.k + j]? = some v := by
 have hj : j < R.k := by have := (List.getElem?_eq_some_iff.1 hv).1; rw [h.len] at this; exact this
 induction xs generalizing i with
 | nil => simp at hq
 | cons y r ih =>
  cases i with
  | zero =>
   simp at hq; subst hq;rw [flatR, Nat.zero_mul, Nat.zero_add, List.getElem?_append_left (by rw [h.len]; exact hj)];exact hv
  | succ i =>
   have e : (i + 1) * R.k + j = R.k + (i * R.k + j) := by rw [Nat.add_mul, Nat.one_mul]; omega
   rw [flatR, List.getElem?_append_right (by rw [h.len]; omega), h.len, e, Nat.add_sub_cancel_left];exact ih i (by simpa using hq)
theorem flatR_inv (h : R.Ok) (xs : List α) (m : Nat) (v : Value) (hv : (flatR R xs)[m]? = some v) : ∃ x, xs[m / R.k]? = some x ∧ (R.enc x)[m % R.k]? = some v := by
 have hm := (List.getElem?_eq_some_iff.1 hv).1;rw [flatR_length h] at hm;have hi : m / R.k < xs.length := (Nat.div_lt_iff_lt_mul h.kp).2 hm;refine ⟨xs[m / R.k], List.getElem?_eq_getElem hi, ?_⟩;have hj : m % R.k < (R.enc xs[m / R.k]).length := by rw [h.len]; exact Nat.mod_lt _ h.kp
 have := flatR_at h xs (m / R.k) (m % R.k) _ _ (List.getElem?_eq_getElem hi) (List.getElem?_eq_getElem hj);rw [Nat.mul_comm, Nat.div_add_mod] at this;rw [this] at hv;rw [List.getElem?_eq_getElem hj]; exact hv
theorem flatR_one (h : R.Ok) (xs : List α) : ∀ v ∈ flatR R xs, v.oneCell' = true := by
 induction xs with
 | nil => simp [flatR]
 | cons x r ih =>
  intro v hv;rw [flatR, List.mem_append] at hv;rcases hv with hv | hv
  ·exact h.one x v hv
  ·exact ih v hv
theorem zeroR (h : R.Ok) (zv : Value) (hz : zv.cells = (R.enc R.z).toArray) (n : Nat) : Builtin.zeroCells zv.cells n = (flatR R (List.replicate n R.z)).toArray := by
 have hk := h.kp;have hs : zv.cells.size = R.k := by rw [hz]; simp [h.len]
 apply Array.ext'
 apply List.ext_getElem?
 intro m;have hl := flatR_length h (List.replicate n R.z);rw [List.length_replicate] at hl;by_cases hm : m < n * R.k
 ·have hi : m / R.k < n := (Nat.div_lt_iff_lt_mul hk).2 hm;have hj : m % R.k < (R.enc R.z).length := by rw [h.len]; exact Nat.mod_lt _ hk
  have := flatR_at h (List.replicate n R.z) (m / R.k) (m % R.k) R.z _ (by simp [hi]) (List.getElem?_eq_getElem hj);rw [Nat.mul_comm, Nat.div_add_mod] at this;rw [List.toList_toArray, this];unfold Builtin.zeroCells;rw [hs];simp only [Array.toList_map, Array.toList_range, List.getElem?_map];rw [List.getElem?_range (by omega)];simp only [Option.map_some, hz];congr 1;rw [List.getElem!_toArray, List.getElem!_eq_getElem?_getD, List.getElem?_eq_getElem hj]; rfl
 ·rw [List.getElem?_eq_none (by simp [Builtin.zeroCells, hs]; omega), List.getElem?_eq_none (by show (flatR R _).length ≤ m; omega)]
def SwR (R : RT α) (g : Nat) (xs : List α) (w : World) : Prop := w.heap[g]? = some (.cells (flatR R xs).toArray R.T)
theorem SwR.lt {g : Nat} {xs : List α} {w : World} (h : SwR R g xs w) : g < w.heap.size := (Array.getElem?_eq_some_iff.1 h).1
theorem SwR.kept {g : Nat} {xs : List α} {w w' : World} {X : Nat → Prop} (h : SwR R g xs w) (f : Fr X w w') (hx : ¬ X g) : SwR R g xs w' := (f.block g h.lt hx).trans h
theorem SwR.cell (hR : R.Ok) {g : Nat} {xs : List α} {w : World} (h : SwR R g xs w) (i j : Nat) (x : α) (v : Value) (hq : xs[i]? = some x) (hv : (R.enc x)[j]? = some v) : w.cell? ⟨g, i * R.k + j, none⟩ = some v ∧ w.frozen? ⟨g, i * R.k + j, none⟩ = false := by
 have := flatR_at hR xs i j x v hq hv;unfold SwR at h;constructor <;> simp [World.cell?, World.frozen?, h, this]
def RdR (R : RT α) (g o : Nat) (l : List α) (w : World) : Prop := ∀ i x j u, l[i]? = some x → (R.enc x)[j]? = some u → w.cell? ⟨g, o + i * R.k + j, none⟩ = some u
theorem RdR.kept {g o : Nat} {l : List α} {w w' : World} {X : Nat → Prop} (h : RdR R g o l w) (f : Fr X w w') (hx : ¬ X g) : RdR R g o l w' := fun i x j u h1 h2 => f.cellv (h i x j u h1 h2) hx
def SlR (R : RT α) (X : Nat → Prop) (v : Value) (l : List α) (w : World) : Prop := (∃ a, v = .slice a 0 0 ∧ l = []) ∨ ∃ g o c, ¬ X g ∧ v = .slice (some ⟨g, o, none⟩) l.length c ∧ l.length ≤ c ∧ c < 9223372036854775808 ∧ RdR R g o l w
theorem SlR.kept {X Y : Nat → Prop} {v : Value} {l : List α} {w w' : World} (h : SlR R X v l w) (f : Fr Y w w') (hx : ∀ g, Y g → X g) : SlR R X v l w' := by
 rcases h with h | ⟨g, o, c, h1, h2, h3, h4, h5⟩
 ·exact .inl h
 ·exact .inr ⟨g, o, c, h1, h2, h3, h4, h5.kept f (fun h => h1 (hx g h))⟩
theorem SlR.nw {X : Nat → Prop} {v : Value} {l : List α} {w w' : World} (h : SlR R X v l w) (f : Nw w w') : SlR R X v l w' := h.kept f (fun _ h => h.elim)
theorem SlR.mono {X Y : Nat → Prop} {v : Value} {l : List α} {w : World} (h : SlR R X v l w) (hxy : ∀ g, Y g → X g) : SlR R Y v l w := by
 rcases h with h | ⟨g, o, c, h1, h2⟩
 ·exact .inl h
 ·exact .inr ⟨g, o, c, fun hy => h1 (hxy g hy), h2⟩
theorem SlR.form {X : Nat → Prop} {v : Value} {l : List α} {w : World} (h : SlR R X v l w) : ∃ a c, v = .slice a l.length c ∧ l.length ≤ c ∧ c < 9223372036854775808 ∧ (c = 0 ∨ ∃ g o, a = some ⟨g, o, none⟩) := by
 rcases h with ⟨a, rfl, rfl⟩ | ⟨g, o, c, h1, rfl, h2, h3, _⟩
 ·exact ⟨a, 0, rfl, by simp, by simp, .inl rfl⟩
 ·exact ⟨_, c, rfl, h2, h3, .inr ⟨g, o, rfl⟩⟩
theorem SlR.at {X : Nat → Prop} {a : Option Addr} {n c : Nat} {l : List α} {w : World} (h : SlR R X (.slice a n c) l w) (i : Nat) (x : α) (hx : l[i]? = some x) : ∃ g o, a = some ⟨g, o, none⟩ ∧ ¬ X g ∧ ∀ j u, (R.enc x)[j]? = some u → w.cell? ⟨g, o + i * R.k + j, none⟩ = some u := by
 rcases h with ⟨a, e, rfl⟩ | ⟨g, o, c, h1, e, h2, h3, h4⟩
 ·simp at hx
 ·injection e with e _ _;exact ⟨g, o, e, h1, fun j u hu => h4 i x j u hx hu⟩
theorem srcR (hR : R.Ok) (w : World) (x : Value) (m : List α) (hx : SlR R (fun _ => False) x m w) : Src Tryz.prog R.k R.TS x m.length (flatR R m) w := by
 rcases hx with ⟨a, rfl, rfl⟩ | ⟨g, o, c, _, rfl, h1, h2, h3⟩
 ·cases a with
  | none => exact Src.ofNil w hR.und 0
  | some a => exact Src.ofSlice w hR.und a 0 0 _ (by simp [flatR]) (fun j u hj => by simp [flatR] at hj) (flatR_one hR _)
 ·refine Src.ofSlice w hR.und ⟨g, o, none⟩ m.length c _ (flatR_length hR m) (fun j u hj => ?_) (flatR_one hR _);rw [add_addr];obtain ⟨x, hx1, hx2⟩ := flatR_inv hR m j u hj;have := h3 _ x _ u hx1 hx2;rw [Nat.add_assoc, Nat.mul_comm, Nat.div_add_mod] at this;exact this
def OwR (R : RT α) (g : Nat) (v : Value) (l : List α) (w : World) : Prop := ∃ xs, v = .slice (some ⟨g, 0, none⟩) l.length xs.length ∧ xs.take l.length = l ∧ l.length ≤ xs.length ∧ xs.length < 9223372036854775808 ∧ SwR R g xs w
theorem OwR.kept {g : Nat} {v : Value} {l : List α} {w w' : World} {X : Nat → Prop} (h : OwR R g v l w) (f : Fr X w w') (hx : ¬ X g) : OwR R g v l w' := by
 obtain ⟨xs, h1, h2, h3, h4, h5⟩ := h;exact ⟨xs, h1, h2, h3, h4, h5.kept f hx⟩
theorem OwR.nw {g : Nat} {v : Value} {l : List α} {w w' : World} (h : OwR R g v l w) (f : Nw w w') : OwR R g v l w' := h.kept f (fun h => h)
theorem OwR.lt {g : Nat} {v : Value} {l : List α} {w : World} (h : OwR R g v l w) : g < w.heap.size := by
 obtain ⟨xs, h1, h2, h3, h4, h5⟩ := h;exact h5.lt
theorem OwR.cell (hR : R.Ok) {g : Nat} {v : Value} {l : List α} {w : World} (h : OwR R g v l w) (i j : Nat) (x : α) (u : Value) (hq : l[i]? = some x) (hv : (R.enc x)[j]? = some u) : w.cell? ⟨g, i * R.k + j, none⟩ = some u ∧ w.frozen? ⟨g, i * R.k + j, none⟩ = false := by
 obtain ⟨xs, h1, h2, h3, h4, h5⟩ := h;refine h5.cell hR i j x u ?_ hv;have hi := (List.getElem?_eq_some_iff.1 hq).1;rw [← h2, List.getElem?_take, if_pos hi] at hq;exact hq
theorem OwR.slr (hR : R.Ok) {g : Nat} {v : Value} {l : List α} {w : World} (h : OwR R g v l w) : SlR R (fun k => k ≠ g) v l w := by
 obtain ⟨xs, h1, h2, h3, h4, h5⟩ := id h;refine .inr ⟨g, 0, xs.length, fun e => e rfl, h1, h3, h4, fun i x j u hx hu => ?_⟩;rw [Nat.zero_add];exact (h.cell hR i j x u hx hu).1
theorem OwR.form {g : Nat} {v : Value} {l : List α} {w : World} (h : OwR R g v l w) : ∃ c, v = .slice (some ⟨g, 0, none⟩) l.length c ∧ l.length ≤ c ∧ c < 9223372036854775808 := by
 obtain ⟨xs, h1, h2, h3, h4, h5⟩ := h;exact ⟨_, h1, h3, h4⟩
theorem OwR.empty (w : World) : OwR R w.heap.size (.slice (some ⟨w.heap.size, 0, none⟩) 0 0) [] (w.alloc (.cells #[] R.T)) :=
 ⟨[], rfl, rfl, by simp, by simp, by
  show (w.heap.push _)[w.heap.size]? = _;simp [flatR]⟩
theorem OwR.built (hR : R.Ok) (w : World) (l : List α) (cs : Array Value) (hc : cs = (flatR R l).toArray) (hl : l.length < 9223372036854775808) : OwR R w.heap.size (.slice (some ⟨w.heap.size, 0, none⟩) l.length l.length) l (w.alloc (.cells cs R.T)) := by
 subst hc;exact ⟨l, rfl, List.take_length, Nat.le_refl _, hl, by
  show (w.heap.push _)[w.heap.size]? = _;simp⟩
def OgR (R : RT α) (og : Option Nat) (v : Value) (l : List α) (w : World) : Prop := match og with | none => v = .slice none 0 0 ∧ l = [] | some g => OwR R g v l w
theorem OgR.kept {og : Option Nat} {v : Value} {l : List α} {w w' : World} {X : Nat → Prop} (h : OgR R og v l w) (f : Fr X w w') (hx : ∀ g, og = some g → ¬ X g) : OgR R og v l w' := by
 cases og with
 | none => exact h
 | some g => exact OwR.kept h f (hx g rfl)
theorem OgR.nw {og : Option Nat} {v : Value} {l : List α} {w w' : World} (h : OgR R og v l w) (f : Nw w w') : OgR R og v l w' := h.kept f (fun _ _ h => h)
theorem OgR.lt {og : Option Nat} {v : Value} {l : List α} {w : World} (h : OgR R og v l w) (g : Nat) (hg : og = some g) : g < w.heap.size := by
 subst hg; exact OwR.lt h
theorem OgR.slr (hR : R.Ok) {og : Option Nat} {v : Value} {l : List α} {w : World} (h : OgR R og v l w) : SlR R (fun k => og ≠ some k) v l w := by
 cases og with
 | none => exact .inl ⟨none, h.1, h.2⟩
 | some g => exact (OwR.slr hR h).mono (fun k hk e => hk (by rw [e]))
theorem OgR.form {og : Option Nat} {v : Value} {l : List α} {w : World} (h : OgR R og v l w) : ∃ a c, v = .slice a l.length c ∧ l.length ≤ c ∧ c < 9223372036854775808 := by
 cases og with
 | none => exact ⟨none, 0, by rw [h.1, h.2]; rfl, by rw [h.2]; simp, by decide⟩
 | some g => obtain ⟨c, h1, h2, h3⟩ := OwR.form h; exact ⟨_, c, h1, h2, h3⟩
def Went (og og' : Option Nat) (w : World) : Prop := og' = og ∨ ∃ g, og' = some g ∧ w.heap.size ≤ g
theorem Went.refl (og : Option Nat) (w : World) : Went og og w := .inl rfl
theorem Went.trans {a b c : Option Nat} {w w' : World} (h : Went a b w) (k : Went b c w') (hs : w.heap.size ≤ w'.heap.size) : Went a c w := by
 rcases k with rfl | ⟨g, rfl, hg⟩
 ·exact h
 ·exact .inr ⟨g, rfl, by omega⟩
theorem owR_app (hR : R.Ok) (w : World) (g : Nat) (v : Value) (l : List α) (hO : OwR R g v l w) (x : Value) (m : List α) (hx : SlR R (fun _ => False) x m w) (hb : (l.length + m.length + (l.length + m.length) / 4 + 192) * R.by_ ≤ 281474976710656) (hb2 : l.length + m.length ≤ 1000000000000000) :
  ∃ v' g' W, (∀ ty, (Builtin.append_ #[R.TS, R.TS] ty #[v, x]).run Tryz.prog w = .ok v' W) ∧ OwR R g' v' (l ++ m) W ∧ Fr (fun k => k = g) w W ∧ (g' = g ∨ w.heap.size ≤ g') := by
 obtain ⟨xs, rfl, h2, h3, h4, h5⟩ := hO;obtain ⟨i, zv, hi, hz, hs, hby, hzc⟩ := hR.info;have hsrc := srcR hR w x m hx;by_cases hroom : l.length + m.length ≤ xs.length
 ·have hlm : (l.length + m.length) * R.k ≤ xs.length * R.k := Nat.mul_le_mul_right _ hroom;have hst := run_storeCells_at (P := Tryz.prog) g (0 + l.length * R.k) R.T (flatR R m) 0 (flatR R xs).toArray w h5 (by simp only [List.size_toArray, flatR_length hR]; rw [Nat.add_mul] at hlm; omega) (flatR_one hR _);refine ⟨.slice (some ⟨g, 0, none⟩) (l.length + m.length) xs.length, g, w.setRow g ((flatR R (l ++ m ++ xs.drop (l.length + m.length))).toArray), fun ty => ?_, ?_, ?_, .inl rfl⟩
  ·obtain ⟨W0, hW0⟩ : ∃ W0, W0 = w.setRow g ((flatR R (l ++ m ++ xs.drop (l.length + m.length))).toArray) := ⟨_, rfl⟩;have hst' : (storeCells ⟨g, l.length * R.k, none⟩ (flatR R m)).run Tryz.prog w = .ok () W0 := by
    rw [← Nat.zero_add (l.length * R.k), hst, hW0];congr 3;simp only [Nat.add_zero, Nat.zero_add];rw [flatR_length hR, ← Nat.add_mul, flatR_take hR _ _ (by omega), flatR_drop hR _ _ (by omega), h2, flatR_append, flatR_append]
   rw [← hW0];clear hst;rcases hsrc.kind with ⟨e', hk⟩ | hk
   ·simp [Builtin.append_, run_underlying hR.und, sizeOf, typeInfo, hi, hs, hsrc.len, hroom, hsrc.cells, Addr.add_lit, hst']
   ·rw [hR.und] at hk; cases hk
  ·refine ⟨l ++ m ++ xs.drop (l.length + m.length), ?_, ?_, ?_, ?_, ?_⟩
   ·simp; omega
   ·rw [List.take_append_of_le_length (by simp), List.take_of_length_le (by simp)]
   ·simp
   ·simp; omega
   ·exact setRow_heap w g _ _ R.T _ h5
  ·exact (Fr.refl _ _).setRow _ _ (.inl rfl)
 ·have hold : (Builtin.firstCells i.size l.length (.slice (some ⟨g, 0, none⟩) l.length xs.length)).run Tryz.prog w.drew = .ok (flatR R l).toArray w.drew := by
   rw [hs];refine run_firstCells_some w.drew R.k l.length ⟨g, 0, none⟩ l.length xs.length (flatR R l) (flatR_length hR l) (fun j u hj => ?_);rw [add_addr, Nat.zero_add];have hjl : j < l.length * R.k := by have := (List.getElem?_eq_some_iff.1 hj).1; rw [flatR_length hR] at this; exact this
   have : (flatR R xs)[j]? = some u := by
    rw [← h2, ← flatR_take hR _ _ h3, List.getElem?_take, if_pos hjl] at hj;exact hj
   unfold SwR at h5;show w.cell? _ = _;simp [World.cell?, h5, this]
  have hrun := fun ty => run_append_grow_src w R.TS R.TS ty R.T i _ hR.und hi hz (some ⟨g, 0, none⟩) l.length xs.length _ hold x m.length _ (by rw [hs]; exact hsrc) (by omega) (by omega) (by rw [hby]; exact growslice_fits_wide (by omega) hb)
  have hge := grownCap_ge w (l.length + m.length) xs.length R.T;have hle := grownCap_le_maxLen w (l.length + m.length) xs.length R.T (by unfold maxLen; omega);unfold maxLen at hle;generalize grownCap w (l.length + m.length) xs.length R.T = G at *;refine ⟨_, w.heap.size, _, hrun, ?_, (Fr.refl _ _).drew.alloc _, .inr (Nat.le_refl _)⟩;have e : ((flatR R l ++ flatR R m).toArray ++ Builtin.zeroCells zv.cells (G - (l.length + m.length))) = (flatR R (l ++ m ++ List.replicate (G - (l.length + m.length)) R.z)).toArray := by
   rw [zeroR hR zv hzc, flatR_append, flatR_append]; simp
  rw [e];refine ⟨l ++ m ++ List.replicate (G - (l.length + m.length)) R.z, ?_, ?_, ?_, ?_, ?_⟩
  ·simp; omega
  ·rw [List.take_append_of_le_length (by simp), List.take_of_length_le (by simp)]
  ·simp
  ·simp; omega
  ·show (w.heap.push _)[w.heap.size]? = _;simp
theorem ogR_app (hR : R.Ok) (w : World) (og : Option Nat) (v : Value) (l : List α) (h : OgR R og v l w) (x : Value) (m : List α) (hx : SlR R (fun _ => False) x m w) (hb : (l.length + m.length + (l.length + m.length) / 4 + 192) * R.by_ ≤ 281474976710656) (hb2 : l.length + m.length ≤ 1000000000000000) :
  ∃ v' og' W, (∀ ty, (Builtin.append_ #[R.TS, R.TS] ty #[v, x]).run Tryz.prog w = .ok v' W) ∧ OgR R og' v' (l ++ m) W ∧ Fr (fun k => og = some k) w W ∧ Went og og' w := by
 cases og with
 | none =>
  obtain ⟨rfl, rfl⟩ := h;obtain ⟨i, zv, hi, hz, hs, hby, hzc⟩ := hR.info;have hsrc := srcR hR w x m hx;by_cases hm : m.length = 0
  ·obtain rfl : m = [] := List.eq_nil_of_length_eq_zero hm;refine ⟨.slice none 0 0, none, w, fun ty => ?_, ⟨rfl, rfl⟩, Fr.refl _ _, .inl rfl⟩;rcases hsrc.kind with ⟨e', hk⟩ | hk
   ·have hc := hsrc.cells;simp [flatR] at hc;rcases hx with ⟨a, rfl, _⟩ | ⟨g, o, c, _, rfl, _, _, _⟩
    ·simp [Builtin.append_, run_underlying hR.und, sizeOf, typeInfo, hi, hs, Builtin.lenOf, hc]
    ·simp [Builtin.append_, run_underlying hR.und, sizeOf, typeInfo, hi, hs, Builtin.lenOf];simp at hc;rw [hc]; rfl
   ·rw [hR.und] at hk; cases hk
  ·have hrun := fun ty => run_append_grow_src w R.TS R.TS ty R.T i _ hR.und hi hz none 0 0 [] (by simp [Builtin.firstCells]) x m.length _ (by rw [hs]; exact hsrc) (by omega) (by omega) (by rw [hby]; exact growslice_fits_wide (by omega) (by simpa using hb))
   have hge := grownCap_ge w (0 + m.length) 0 R.T;have hle := grownCap_le_maxLen w (0 + m.length) 0 R.T (by unfold maxLen; omega);unfold maxLen at hle;generalize grownCap w (0 + m.length) 0 R.T = G at *;refine ⟨_, some w.heap.size, _, hrun, ?_, Nw.any ((Fr.refl _ _).drew.alloc _), .inr ⟨_, rfl, Nat.le_refl _⟩⟩;have e : (([] ++ flatR R m).toArray ++ Builtin.zeroCells zv.cells (G - (0 + m.length))) = (flatR R (m ++ List.replicate (G - (0 + m.length)) R.z)).toArray := by
    rw [zeroR hR zv hzc, flatR_append]; simp
   rw [e, List.nil_append];refine ⟨m ++ List.replicate (G - (0 + m.length)) R.z, ?_, ?_, ?_, ?_, ?_⟩
   ·simp; omega
   ·rw [List.take_append_of_le_length (by simp), List.take_of_length_le (by simp)]
   ·simp
   ·simp; omega
   ·show (w.heap.push _)[w.heap.size]? = _;simp
 | some g =>
  obtain ⟨v', g', W, k1, k2, k3, k4⟩ := owR_app hR w g v l h x m hx hb hb2;refine ⟨v', some g', W, k1, k2, k3.mono (fun i hi => .inl (by rw [hi])), ?_⟩;rcases k4 with rfl | k4
  ·exact .inl rfl
  ·exact .inr ⟨_, rfl, k4⟩
end Go.Proofs.YtlenihpbhlfcoaaGreatDoor

import Derived.Test.YtincbbnppcpfpaaDoorTca
import Derived.Test.YtincbbnppcpfpaaDoorTcb
import Derived.Test.YtincbbnppcpfpaaDoorTcc
import Derived.Test.YtincbbnppcpfpaaDoorTcg
namespace Go.Proofs.YtincbbnppcpfpaaDoor
open Go.RowKit
set_option linter.unusedVariables false
variable {sb ga cg most p er : Nat} {b out : List By} {og : Option Nat} {vo : Value} {w : World} {ls : List Nat}
/-- What own answers. -/
def OwnA (sb ga cg : Nat) (b : List By) (most p : Nat) (og : Option Nat) (vo : Value) (out : List By) (R : Rz ((List Nat × List Nat) × Bt)) (w : World) (e : Ending) (w' : World) : Prop :=
  ∃ a1 n1 c1 a2 n2 c2, e = .returned (.tuple #[.slice a1 n1 c1, .slice a2 n2 c2]) ∧ Hid (∃ p' er', p ≤ p' ∧ DsI sb ga cg b most p' og vo out er' w' ∧ Fr (fun k => k = sb) w w' ∧ ((er' ≠ 0 ∧ R = .bad er') ∨ (er' = 0 ∧ ∃ la lb, R = .ok ((la, lb), bt b p') ∧ SlR RI (fun k => k < w.heap.size ∨ w'.heap.size ≤ k) (.slice a1 n1 c1) (toI la) w' ∧ SlR RI (fun k => k < w.heap.size ∨ w'.heap.size ≤ k) (.slice a2 n2 c2) (toI lb) w' ∧ Cod la ∧ (∀ i, lb.getD i 0 ≤ 15) ∧ lb.length ≤ 320 ∧ (sumL lb = 0 ∨ Cod lb))))
open Classical in
noncomputable def ownK (A : Nat) (l : List Nat) : Rdr (List Nat × List Nat) := if l.getD 256 0 ≠ 0 ∧ Good (l.take A) ∧ (sumL (l.drop A) = 0 ∨ Good (l.drop A)) then retR (l.take A, l.drop A) else failR 62
open Classical in
noncomputable def ownL (A N : Nat) (sm : List Nat) : Rdr (List Nat × List Nat) := if ¬ (Cod sm ∧ room sm = 32768) then failR 62 else bindR (lensR sm N N []) (ownK A)
noncomputable def ownS (a d n : Nat) : Rdr (List Nat × List Nat) := if 286 < a + 257 ∨ 30 < d + 1 then failR 62 else bindR (smallR 0 (n + 4) (List.replicate 19 0)) (ownL (a + 257) (a + 257 + (d + 1)))
theorem ownD_eq : ownR = bindR (takeR 5) fun a => bindR (takeR 5) fun d => bindR (takeR 4) fun n => ownS a d n := rfl
/-- The first three numbers. -/
theorem own3 (h : DsI sb ga cg b most p og vo out 0 w) (R : Rz ((List Nat × List Nat) × Bt)) (hR : R = ownR (bt b p)) :
    Calls Tryd.prog 36 #[.pointer (some ⟨sb, 0, none⟩), .int .i64 5] w fun e w1 => ∃ x1 : Nat, e = .returned (.int .i64 x1) ∧ x1 < 32 ∧ Hid (Calls Tryd.prog 36 #[.pointer (some ⟨sb, 0, none⟩), .int .i64 5] w1 fun e w2 => ∃ x2 : Nat, e = .returned (.int .i64 x2) ∧ x2 < 32 ∧ Hid (Calls Tryd.prog 36 #[.pointer (some ⟨sb, 0, none⟩), .int .i64 4] w2 fun e w3 => ∃ x3 p3 er3 : Nat, e = .returned (.int .i64 x3) ∧ x3 < 16 ∧ p ≤ p3 ∧ Hid (DsI sb ga cg b most p3 og vo out er3 w3 ∧ Fr (fun k => k = sb) w w3 ∧ Cn b R er3 p3 (ownS x1 x2 x3)))) := by
  rw [ownD_eq] at hR
  refine (hbits_any h 5 (by omega) R _ (.inr ⟨rfl, hR⟩)).mono ?_
  rintro e w1 ⟨x1, p1, er1, rfl, h1, q1, H1⟩
  obtain ⟨d1, f1, c1⟩ := H1.out
  refine ⟨x1, rfl, h1, ?_⟩
  show Calls _ _ _ _ _
  refine (hbits_any d1 5 (by omega) R _ c1).mono ?_
  rintro e w2 ⟨x2, p2, er2, rfl, h2, q2, H2⟩
  obtain ⟨d2, f2, c2⟩ := H2.out
  refine ⟨x2, rfl, h2, ?_⟩
  show Calls _ _ _ _ _
  refine (hbits_any d2 4 (by omega) R _ c2).mono ?_
  rintro e w3 ⟨x3, p3, er3, rfl, h3, q3, H3⟩
  obtain ⟨d3, f3, c3⟩ := H3.out
  exact ⟨x3, p3, er3, rfl, h3, by omega, d3, (f1.trans f2).trans f3, c3⟩
/-- The state's blocks are older than w. -/
def Lo (sb ga : Nat) (og : Option Nat) (w : World) : Prop := sb < w.heap.size ∧ ga < w.heap.size ∧ ∀ g, og = some g → g < w.heap.size
theorem DsI.lo (h : DsI sb ga cg b most p og vo out er w) : Lo sb ga og w := ⟨h.lt, h.gl, fun g hg => h.ho.lt g hg⟩
/-- How the three bits of each length are read: sm in the block gs, order in ob. -/
def SmD (sb ga cg : Nat) (b : List By) (most p0 : Nat) (og : Option Nat) (vo : Value) (out : List By) (R : Rz ((List Nat × List Nat) × Bt)) (w : World) (gs : Nat) (A N n : Nat) (I er p : Nat) (sm : List Nat) (wr : World) : Prop :=
  p0 ≤ p ∧ DsI sb ga cg b most p og vo out er wr ∧ Fr (fun k => k = sb) w wr ∧ SwR RI gs (toI sm) wr ∧ w.heap.size ≤ gs ∧ Lo sb ga og w ∧ sm.length = 19 ∧ Cn b R er p (bindR (smallR I (n - I) sm) (ownL A N))
theorem ordD_lt : ∀ i, i < 19 → ordL.getD i 0 < 19 := by decide
theorem SmD.step {R : Rz ((List Nat × List Nat) × Bt)} {gs A N n I p0 : Nat} {sm : List Nat} {wr : World} (h : SmD sb ga cg b most p0 og vo out R w gs A N n I er p sm wr) (hI : I < n) (hn : n ≤ 19) (V : World) (hV : Nw wr V) :
    Calls Tryd.prog 36 #[.pointer (some ⟨sb, 0, none⟩), .int .i64 3] V fun e w1 => ∃ x : Nat, e = .returned (.int .i64 x) ∧ x < 8 ∧ Fr (fun k => k = sb) wr w1 ∧ (∃ q : Nat, w1.cell? ⟨gs, ordL.getD I 0, none⟩ = some (.int .i64 q)) ∧ w1.frozen? ⟨gs, ordL.getD I 0, none⟩ = false ∧ Hid (∃ er' p', SmD sb ga cg b most p0 og vo out R w gs A N n (I + 1) er' p' (sm.set (ordL.getD I 0) x) (w1.setCell ⟨gs, ordL.getD I 0, none⟩ (.int .i64 x))) := by
  obtain ⟨h1, h2, h3, h4, h5, hlo, h6, h7⟩ := h
  have ho := ordD_lt I (by omega)
  obtain ⟨k, hk⟩ : ∃ k, n - I = k + 1 := ⟨n - I - 1, by omega⟩
  rw [hk, smallR, bindR_assoc] at h7
  refine (hbits_any (h2.nw hV) 3 (by omega) R _ h7).mono ?_
  rintro e w1 ⟨x, p1, er1, rfl, hx, hp1, H1⟩
  obtain ⟨d1, f1, c1⟩ := H1.out
  have f1' : Fr (fun k => k = sb) wr w1 := hV.any.trans f1
  have hgs : gs ≠ sb := by have := hlo.1; omega
  have h4w := h4.kept f1' hgs
  have hat : (toI sm)[ordL.getD I 0]? = some ((sm.getD (ordL.getD I 0) 0 : Nat) : Int) := by
    generalize ordL.getD I 0 = j at *
    have hj : j < sm.length := by omega
    unfold toI
    rw [List.getElem?_map, List.getElem?_eq_getElem hj, List.getD_eq_getElem?_getD, List.getElem?_eq_getElem hj]; rfl
  have hc := h4w.cell riOk (ordL.getD I 0) 0 _ _ hat rfl
  rw [show RI.k = 1 from rfl, Nat.mul_one, Nat.add_zero] at hc
  have fs : Fr (fun k => k = gs) w1 (w1.setCell ⟨gs, ordL.getD I 0, none⟩ (.int .i64 x)) := (Fr.refl _ _).setCell _ _ (.inl rfl)
  refine ⟨x, rfl, hx, f1', ⟨_, hc.1⟩, hc.2, er1, p1, by omega, ?_, ?_, ?_, h5, hlo, by rw [List.length_set]; exact h6, ?_⟩
  · refine d1.keep fs (fun e => hgs e.symm) (fun e => ?_) (fun g hg e => ?_)
    · have := hlo.2.1; omega
    · have := hlo.2.2 g hg; omega
  · exact Fr.then (h3.trans f1') fs (fun i hi => .inr (by rw [hi]; exact h5))
  · have e : toI (sm.set (ordL.getD I 0) x) = (toI sm).set (ordL.getD I 0) (x : Int) := by unfold toI; rw [List.map_set]
    rw [e]; exact h4w.set1 _ _
  · rw [show n - (I + 1) = k by omega]; exact c1
/-- The same where an error came: nothing more is read. -/
def BdI (sb ga cg : Nat) (b : List By) (most p : Nat) (og : Option Nat) (vo : Value) (out : List By) (er : Nat) (w : World) (gs : Nat) (wr : World) : Prop :=
  DsI sb ga cg b most p og vo out er wr ∧ Fr (fun k => k = sb) w wr ∧ w.heap.size ≤ gs ∧ Lo sb ga og w ∧ ∃ sm : List Nat, SwR RI gs (toI sm) wr ∧ sm.length = 19
theorem BdI.step {gs I : Nat} {wr : World} (h : BdI sb ga cg b most p og vo out er w gs wr) (he : er ≠ 0) (hI : I < 19) (V : World) (hV : Nw wr V) :
    Calls Tryd.prog 36 #[.pointer (some ⟨sb, 0, none⟩), .int .i64 3] V fun e w1 => ∃ x : Nat, e = .returned (.int .i64 x) ∧ Fr (fun k => k = sb) wr w1 ∧ (∃ q : Nat, w1.cell? ⟨gs, ordL.getD I 0, none⟩ = some (.int .i64 q)) ∧ w1.frozen? ⟨gs, ordL.getD I 0, none⟩ = false ∧ Hid (BdI sb ga cg b most p og vo out er w gs (w1.setCell ⟨gs, ordL.getD I 0, none⟩ (.int .i64 x))) := by
  obtain ⟨h2, h3, h5, hlo, sm, h4, h6⟩ := h
  have ho := ordD_lt I hI
  refine (hbits_err (h2.nw hV) he 3).mono ?_
  rintro e w1 ⟨rfl, rfl⟩
  have h4w := h4.kept hV (fun h => h)
  have hat : (toI sm)[ordL.getD I 0]? = some ((sm.getD (ordL.getD I 0) 0 : Nat) : Int) := by
    generalize ordL.getD I 0 = j at *
    have hj : j < sm.length := by omega
    unfold toI
    rw [List.getElem?_map, List.getElem?_eq_getElem hj, List.getD_eq_getElem?_getD, List.getElem?_eq_getElem hj]; rfl
  have hc := h4w.cell riOk (ordL.getD I 0) 0 _ _ hat rfl
  rw [show RI.k = 1 from rfl, Nat.mul_one, Nat.add_zero] at hc
  have fs : Fr (fun k => k = gs) V (V.setCell ⟨gs, ordL.getD I 0, none⟩ (.int .i64 (0 : Nat))) := (Fr.refl _ _).setCell _ _ (.inl rfl)
  refine ⟨0, rfl, hV.any, ⟨_, hc.1⟩, hc.2, (h2.nw hV).keep fs (fun e => ?_) (fun e => ?_) (fun g hg e => ?_), Fr.then (h3.trans hV.any) fs (fun i hi => .inr (by rw [hi]; exact h5)), h5, hlo, sm.set (ordL.getD I 0) 0, ?_, by rw [List.length_set]; exact h6⟩
  · have := hlo.1; omega
  · have := hlo.2.1; omega
  · have := hlo.2.2 g hg; omega
  · have e : toI (sm.set (ordL.getD I 0) 0) = (toI sm).set (ordL.getD I 0) ((0 : Nat) : Int) := by unfold toI; rw [List.map_set]
    rw [e]; exact h4w.set1 _ _
/-- A row as a slice. -/
theorem swr_slice {gs : Nat} {sm : List Nat} {wr : World} (h : SwR RI gs (toI sm) wr) (h19 : sm.length = 19) : SlR RI (fun k => k ≠ gs) (.slice (some ⟨gs, 0, none⟩) 19 19) (toI sm) wr := by
  have : OwR RI gs (.slice (some ⟨gs, 0, none⟩) 19 19) (toI sm) wr := ⟨toI sm, by rw [toI_length, h19], by rw [List.take_length], Nat.le_refl _, by rw [toI_length, h19]; omega, h⟩
  exact this.slr riOk
noncomputable def lnB (sm : List Nat) (N k : Nat) (l : List Nat) (y : Nat) : Rdr (List Nat) :=
  if y = 16 then bindR (takeR 2) fun v => lensR sm N k (l ++ List.replicate (3 + v) (if l.length = 0 then 16 else lastL l))
  else if y = 17 then bindR (takeR 3) fun v => lensR sm N k (l ++ List.replicate (3 + v) 0)
  else if y = 18 then bindR (takeR 7) fun v => lensR sm N k (l ++ List.replicate (11 + v) 0)
  else lensR sm N k (l ++ List.replicate 1 y)
/-- A symbol of lengths: what it is asked, and what then is still to be read. -/
theorem lens_sym {sm : List Nat} {N k : Nat} {l : List Nat} {A : Nat} (h : l.length < N) : bindR (lensR sm N (k + 1) l) (ownK A) = bindR (symR sm) fun y => if y = 16 ∧ l.length = 0 then failR 62 else bindR (lnB sm N k l y) (ownK A) := by
  rw [lensR, if_pos h, bindR_assoc]
  congr 1; funext y
  unfold lnB
  by_cases h16 : y = 16
  · rw [if_pos h16]
    by_cases h0 : l.length = 0
    · rw [if_pos h0, if_pos ⟨h16, h0⟩]; rfl
    · rw [if_neg h0, if_neg (show ¬ (y = 16 ∧ l.length = 0) from fun e => h0 e.2), if_pos h16, if_neg h0]
  · rw [if_neg h16, if_neg (show ¬ (y = 16 ∧ l.length = 0) from fun e => h16 e.1), if_neg h16]
    rfl
/-- How own's list grows: behind the world w4. -/
def LiD (sb ga cg : Nat) (b : List By) (most p : Nat) (og : Option Nat) (vo : Value) (out : List By) (er : Nat) (w4 : World) (l : List Nat) (a : Option Addr) (n c : Nat) (wr : World) : Prop :=
  DsI sb ga cg b most p og vo out er wr ∧ Fr (fun k => k = sb) w4 wr ∧ Lo sb ga og w4 ∧ n = l.length ∧ ∃ ol, OgR RI ol (.slice a n c) (toI l) wr ∧ ∀ g, ol = some g → w4.heap.size ≤ g
/-- How a round stands behind the symbol: what comes how often. -/
def TmD (sb ga cg : Nat) (b : List By) (most p0 : Nat) (og : Option Nat) (vo : Value) (out : List By) (R : Rz ((List Nat × List Nat) × Bt)) (w4 : World) (sm : List Nat) (A N k er p : Nat) (l : List Nat) (a : Option Addr) (n c T X : Nat) (wr : World) : Prop :=
  p0 ≤ p ∧ LiD sb ga cg b most p og vo out er w4 l a n c wr ∧ 1 ≤ T ∧ T ≤ 138 ∧ (er = 0 → X ≤ 15) ∧ Cn b R er p (bindR (lensR sm N k (l ++ List.replicate T X)) (ownK A))
theorem LiD.push {w4 wr : World} {l : List Nat} {a : Option Addr} {n c : Nat} (h : LiD sb ga cg b most p og vo out er w4 l a n c wr) (hl : n ≤ 1000000) (x : Nat) :
    ∃ a' c' W, Hid (∀ ty, (Builtin.append_ #[42, 42] ty #[.slice a n c, .slice (some ⟨wr.heap.size, 0, none⟩) 1 1]).run Tryd.prog (wr.alloc (.cells #[.int .i64 (x : Nat)] 3)) = .ok (.slice a' (n + 1) c') W) ∧ Hid (LiD sb ga cg b most p og vo out er w4 (l ++ [x]) a' (n + 1) c' W) := by
  obtain ⟨h1, h2, h3, rfl, ol, h4, h5⟩ := h
  obtain ⟨a', c', W, og', k1, k2, k3, k4, _, _⟩ := ogi_push wr ol _ l h4 hl x
  refine ⟨a', c', W, k1, h1.keep k3 (fun e => ?_) (fun e => ?_) (fun g hg e => ?_), Fr.then h2 k3 (fun i hi => .inr (h5 i hi)), h3, by simp, og', k2, fun g hg => ?_⟩
  · have := h5 _ e; have := h3.1; omega
  · have := h5 _ e; have := h3.2.1; omega
  · have := h5 _ e; have := h3.2.2 g hg; omega
  · rcases k4 with rfl | ⟨g', e, hg'⟩
    · exact h5 g hg
    · rw [e] at hg; injection hg with hg; subst hg; exact Nat.le_trans h2.size hg'
theorem LiD.go {w4 wr w2 : World} {l : List Nat} {a : Option Addr} {n c p2 er2 : Nat} (h : LiD sb ga cg b most p og vo out er w4 l a n c wr) (d : DsI sb ga cg b most p2 og vo out er2 w2) (f : Fr (fun k => k = sb) wr w2) : LiD sb ga cg b most p2 og vo out er2 w4 l a n c w2 := by
  obtain ⟨h1, h2, h3, h6, ol, h4, h5⟩ := h
  refine ⟨d, h2.trans f, h3, h6, ol, h4.kept f (fun g hg e => ?_), h5⟩
  have := h5 g hg; have := h3.1; omega
/-- How own's loop over the lengths stands. -/
def LnD (sb ga cg : Nat) (b : List By) (most p0 : Nat) (og : Option Nat) (vo : Value) (out : List By) (R : Rz ((List Nat × List Nat) × Bt)) (w4 : World) (sm : List Nat) (A N kx er p : Nat) (l : List Nat) (a : Option Addr) (n c : Nat) (wr : World) : Prop :=
  p0 ≤ p ∧ LiD sb ga cg b most p og vo out er w4 l a n c wr ∧ (er = 0 → l.length ≤ N ∧ (∀ i, l.getD i 0 ≤ 15) ∧ N - l.length + 1 ≤ kx) ∧ ∃ k, (er = 0 → N - l.length ≤ k) ∧ Cn b R er p (bindR (lensR sm N k l) (ownK A))
/-- A length that comes so many times. -/
theorem LnD.next {R : Rz ((List Nat × List Nat) × Bt)} {w4 wr : World} {sm l : List Nat} {A N T X p0 p2 er2 k kx : Nat} {a : Option Addr} {n c : Nat} (hp : p0 ≤ p2) (h : LiD sb ga cg b most p2 og vo out er2 w4 (l ++ List.replicate T X) a n c wr) (hT : 1 ≤ T) (hl : er2 = 0 → (l ++ List.replicate T X).length ≤ N) (hX : er2 = 0 → X ≤ 15) (h15 : er2 = 0 → ∀ i, l.getD i 0 ≤ 15) (hk : er2 = 0 → N - l.length ≤ k + 1) (hkx : er2 = 0 → N - l.length + 1 ≤ kx + 1) (hc : Cn b R er2 p2 (bindR (lensR sm N k (l ++ List.replicate T X)) (ownK A))) : LnD sb ga cg b most p0 og vo out R w4 sm A N kx er2 p2 (l ++ List.replicate T X) a n c wr := by
  refine ⟨hp, h, fun e => ⟨hl e, fun i => ?_, ?_⟩, k, fun e => ?_, hc⟩
  · by_cases hi : i < l.length
    · rw [List.getD_eq_getElem?_getD, List.getElem?_append_left hi, ← List.getD_eq_getElem?_getD]; exact h15 e i
    · rw [List.getD_eq_getElem?_getD, List.getElem?_append_right (by omega), List.getElem?_replicate]
      split
      · exact hX e
      · simp
  · have h1 := hl e; have h2 := hkx e
    rw [List.length_append, List.length_replicate] at h1 ⊢
    omega
  · have h1 := hl e; have h2 := hk e
    rw [List.length_append, List.length_replicate] at h1 ⊢
    omega
/-- Too many lengths. -/
theorem lens_over {sm : List Nat} {N k : Nat} {l : List Nat} (h : N < l.length) (t : Bt) : lensR sm N k l t = .bad 62 := by
  cases k with
  | zero => rw [lensR, if_pos h]; rfl
  | succ k => rw [lensR, if_neg (by omega), if_pos h]; rfl
theorem lens_done {sm : List Nat} {N k : Nat} {l : List Nat} (h : l.length = N) : lensR sm N k l = retR l := by
  cases k with
  | zero => rw [lensR, if_neg (by omega)]
  | succ k => rw [lensR, if_neg (by omega), if_neg (by omega)]
/-- A part of a row of lengths, told by its block. -/
theorem OwR.partG {g c : Nat} {l : List Nat} {w : World} (h : OwR RI g (.slice (some ⟨g, 0, none⟩) l.length c) (toI l) w) (o n : Nat) (ho : o + n ≤ l.length) (k : Nat) (hk : n ≤ k) (hk2 : k < 9223372036854775808) : SlR RI (fun k => k ≠ g) (.slice (some ⟨g, o, none⟩) n k) (toI ((l.drop o).take n)) w := by
  have hlen : (toI ((l.drop o).take n)).length = n := by rw [toI_length, List.length_take, List.length_drop]; omega
  refine .inr ⟨g, o, k, fun h => h rfl, by rw [hlen], by rw [hlen]; exact hk, hk2, fun i x j u hx hu => ?_⟩
  have hi : i < n := by
    have := (List.getElem?_eq_some_iff.1 hx).1
    rw [hlen] at this; exact this
  have hx2 : (toI l)[o + i]? = some x := by
    unfold toI at hx ⊢
    rw [List.getElem?_map, List.getElem?_take, if_pos hi, List.getElem?_drop] at hx
    rw [List.getElem?_map]; exact hx
  have := (h.cell riOk (o + i) j x u hx2 hu).1
  rw [show RI.k = 1 from rfl, Nat.mul_one] at this ⊢
  rw [← this]
/-- The list's block and cells. -/
theorem LiD.row {w4 wr : World} {l : List Nat} {a : Option Addr} {n c : Nat} (h : LiD sb ga cg b most p og vo out er w4 l a n c wr) (h0 : 0 < n) : ∃ g, a = some ⟨g, 0, none⟩ ∧ w4.heap.size ≤ g ∧ n ≤ c ∧ c < 9223372036854775808 ∧ OwR RI g (.slice (some ⟨g, 0, none⟩) l.length c) (toI l) wr ∧ ∀ i, i < n → wr.cell? ⟨g, i, none⟩ = some (.int .i64 (l.getD i 0 : Nat)) := by
  obtain ⟨h1, h2, h3, rfl, ol, h4, h5⟩ := h
  cases ol with
  | none => have := h4.2; rw [← toI_length, this] at h0; simp at h0
  | some g =>
    have h4' : OwR RI g (.slice a l.length c) (toI l) wr := h4
    obtain ⟨c', e, q1, q2⟩ := h4'.form
    rw [toI_length] at e q1
    injection e with e1 e2 e3
    subst e1 e3
    refine ⟨g, rfl, h5 g rfl, q1, q2, h4', fun i hi => ?_⟩
    have := (h4'.cell riOk i 0 _ _ (toI_at l i hi) rfl).1
    rw [show RI.k = 1 from rfl, Nat.mul_one, Nat.add_zero] at this
    exact this
end Go.Proofs.YtincbbnppcpfpaaDoor

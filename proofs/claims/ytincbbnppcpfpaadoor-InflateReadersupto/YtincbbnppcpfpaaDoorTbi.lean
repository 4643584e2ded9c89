import Derived.Test.YtincbbnppcpfpaaDoorTbg
import Derived.Test.YtincbbnppcpfpaaDoorTbh
import Derived.BigQuiet
namespace Go.Proofs.YtincbbnppcpfpaaDoor
open Go.RowKit
set_option linter.unusedVariables false
variable {sb rb : Nat} {K : Nat → Prop} {rv : Value} {v : Value} {b : List By} {p : Nat} {skip left : Int} {most told : Nat} {m : Mm} {s : Sx} {w : World}
/-! ### Which blocks a code lies in: they are told by their types -/
def Kt (w : World) (k : Nat) : Prop := ∃ A t, w.heap[k]? = some (.cells A t) ∧ (t = 127 ∨ t = 134 ∨ t = 3)
theorem Kt.lt {k : Nat} (h : Kt w k) : k < w.heap.size := by
  obtain ⟨A, t, h1, _⟩ := h
  exact (Array.getElem?_eq_some_iff.1 h1).1
theorem Kt.kept {w' : World} {Y : Nat → Prop} {k : Nat} (h : Kt w k) (f : Fr Y w w') (hy : ¬ Y k) : Kt w' k := by
  have hlt := h.lt
  obtain ⟨A, t, h1, h2⟩ := h
  exact ⟨A, t, (f.block k hlt hy).trans h1, h2⟩
theorem CodV.typed {C : Nat → Prop} {u : Value} {ls : List Nat} (h : CodV C u ls w) : CodV (Kt w) u ls w := by
  rcases h with h | ⟨cb, gw, gs, ws, ss, h1, h2, h3, h4, h5, h6⟩
  · exact .inl h
  · exact .inr ⟨cb, gw, gs, ws, ss, h1, h2, h3, ⟨_, _, h2.c.row, .inl rfl⟩, ⟨_, _, h2.c.wd, .inr (.inl rfl)⟩, ⟨_, _, h2.c.st, .inr (.inr rfl)⟩⟩
theorem kt_no {k : Nat} {A : Array Value} {t : TypeId} (hx : w.heap[k]? = some (.cells A t)) (h1 : t ≠ 127) (h2 : t ≠ 134) (h3 : t ≠ 3) : ¬ Kt w k := by
  rintro ⟨A', t', e, ht⟩
  rw [hx] at e
  injection e with e
  injection e with _ e
  subst e
  rcases ht with h | h | h
  · exact h1 h
  · exact h2 h
  · exact h3 h
theorem ow_no {g : Nat} {v : Value} {l : List By} (h : Ow g v l w) : ¬ Kt w g := by
  obtain ⟨xs, _, _, _, _, h5⟩ := h
  exact kt_no h5 (by decide) (by decide) (by decide)
theorem og_no {og : Option Nat} {v : Value} {l : List By} (h : Og og v l w) (g : Nat) (hg : og = some g) : ¬ Kt w g := by
  subst hg
  exact ow_no h
/-- A stream's codes lie in blocks of their types. -/
theorem SmI.typed (h : SmI sb K rv skip left most told m s w) : SmI sb (Kt w) rv skip left most told m s w :=
  ⟨h.row, kt_no h.row (by decide) (by decide) (by decide), fun k hk => hk.lt, h.win, h.wi, h.pl, fun g hg => ⟨og_no h.win g hg, (h.nw g hg).2⟩, fun g hg => ⟨og_no h.pl g hg, (h.np g hg).2⟩, h.ls, fun e => ⟨(h.cs e).1.typed, (h.cs e).2.typed⟩, fun e => ⟨(h.cf e).1.typed, (h.cf e).2.typed⟩, h.pu, h.pd, h.ol, h.ml, h.td⟩
/-- All blocks but its own can be held apart. -/
theorem SmI.wide (h : SmI sb K rv skip left most told m s w) (hop : m.op = none) : SmI sb (fun k => k < w.heap.size ∧ k ≠ sb ∧ m.ow ≠ some k) rv skip left most told m s w := by
  have h1 : ∀ k, K k → (k < w.heap.size ∧ k ≠ sb ∧ m.ow ≠ some k) := fun k hk => ⟨h.lt k hk, fun e => h.ks (e ▸ hk), fun e => (h.nw k e).1 hk⟩
  exact ⟨h.row, fun hk => hk.2.1 rfl, fun k hk => hk.1, h.win, h.wi, h.pl, fun g hg => ⟨fun hk => hk.2.2 hg, (h.nw g hg).2⟩, fun g hg => (by rw [hop] at hg; cases hg), h.ls, fun e => ⟨(h.cs e).1.mono h1, (h.cs e).2.mono h1⟩, fun e => ⟨(h.cf e).1.mono h1, (h.cf e).2.mono h1⟩, h.pu, h.pd, h.ol, h.ml, h.td⟩
/-! ### A reader that is fed -/
noncomputable def pos (most : Nat) (x : List By) : Nat := 8 * x.length - (rf most x).2.1.n
open Classical in
noncomputable def kl (most : Nat) (x : List By) : List By := if (rf most x).2.2 = 4 ∨ (rf most x).2.2 = 0 then kpt x (pos most x) else []
/-- How a reader stands: x was fed in all, B its own blocks. -/
structure RdI (rb : Nat) (B : Nat → Prop) (most : Nat) (x : List By) (tk : Nat) (sv kv : Value) (og : Option Nat) (w : World) : Prop where
  row : w.heap[rb]? = some (.cells #[sv, kv, .int .i64 tk, .int .i64 (rf most x).2.2] 71)
  br : B rb
  bl : ∀ k, B k → k < w.heap.size ∧ ¬ Kt w k ∧ k ≠ 0
  kp : Og og kv (kl most x) w
  ko : ∀ g, og = some g → B g ∧ g ≠ rb
  tl : (rf most x).2.2 = 4 ∨ (rf most x).2.2 = 0 → tk = x.length
  live : (rf most x).2.2 = 4 → ∃ sb m lf, sv = .pointer (some ⟨sb, 0, none⟩) ∧ SmI sb (Kt w) (.pointer none) (skp x (pos most x) : Nat) lf most (rf most x).1.out.length m (rf most x).1 w ∧ m.op = none ∧ Bd most (skp x (pos most x)) (rf most x).1 ∧ B sb ∧ sb ≠ rb ∧ og ≠ some sb ∧ ∀ g, m.ow = some g → B g ∧ g ≠ rb ∧ og ≠ some g
  dead : (rf most x).2.2 ≠ 4 → sv = .pointer none
  ml : most ≤ 4194304
  at_ : (rf most x).2.1 = bt x (pos most x)
theorem RdI.keep {B Y : Nat → Prop} {x : List By} {tk : Nat} {sv kv : Value} {og : Option Nat} {w' : World} (h : RdI rb B most x tk sv kv og w) (f : Fr Y w w') (h1 : ∀ k, B k → ¬ Y k) (h2 : ∀ k, Kt w k → ¬ Y k) : RdI rb B most x tk sv kv og w' := by
  have hn : ∀ k, B k → ¬ Kt w' k := fun k hk => by
    obtain ⟨q1, q2, _⟩ := h.bl k hk
    rintro ⟨A, t, e, ht⟩
    rw [f.block k q1 (h1 k hk)] at e
    exact q2 ⟨A, t, e, ht⟩
  refine ⟨(f.block rb (h.bl rb h.br).1 (h1 rb h.br)).trans h.row, h.br, fun k hk => ⟨Nat.lt_of_lt_of_le (h.bl k hk).1 f.size, hn k hk, (h.bl k hk).2.2⟩, h.kp.kept f (fun g hg => h1 g (h.ko g hg).1), h.ko, h.tl, fun e => ?_, h.dead, h.ml, h.at_⟩
  obtain ⟨sb, m, lf, q1, q2, q3, q4, q5, q6, q7, q8⟩ := h.live e
  refine ⟨sb, m, lf, q1, ?_, q3, q4, q5, q6, q7, q8⟩
  exact (q2.keep f (h1 sb q5) h2 (fun g hg => h1 g (q8 g hg).1) (fun g hg => by rw [q3] at hg; cases hg)).typed
end Go.Proofs.YtincbbnppcpfpaaDoor

namespace Go.Proofs.YtincbbnppcpfpaaDoor
open Go.RowKit
set_option linter.unusedVariables false
variable {rb most tk : Nat} {B : Nat → Prop} {x : List By} {sv kv : Value} {og : Option Nat} {w : World}
theorem kdone_any (h : RdI rb B most x tk sv kv og w) : Calls Tryd.prog 20 #[.pointer (some ⟨rb, 0, none⟩)] w fun e w' => e = .returned (.bool (decide ((rf most x).2.2 = 0))) ∧ w = w' := by
  obtain ⟨P, hP⟩ : ∃ P : Ending → World → Prop, P = fun e w' => e = .returned (.bool (decide ((rf most x).2.2 = 0))) ∧ w = w' := ⟨_, rfl⟩
  rw [← hP]
  have c3 := (row_cell h.row 3 _ rfl).1
  generalize (rf most x).2.2 = y at *
  clear h
  by_cases h0 : y = 0
  · have HF : Hid (P (.returned (.bool true)) w) := by
      show P _ _
      rw [hP, decide_eq_true h0]; exact ⟨rfl, rfl⟩
    subst h0
    clear hP
    go_enter Tryd.func20, Tryd.ntmps20
    go_wp2
    exact HF.out
  · have HF : Hid (P (.returned (.bool false)) w) := by
      show P _ _
      rw [hP, decide_eq_false h0]; exact ⟨rfl, rfl⟩
    have hz : ((y : Int) == 0) = false := by simp only [beq_eq_false_iff_ne, ne_eq]; omega
    clear hP
    go_enter Tryd.func20, Tryd.ntmps20
    go_wp2
    exact HF.out
theorem kl_len (h : (rf most x).2.2 = 4 ∨ (rf most x).2.2 = 0) : (kl most x).length = lft x (pos most x) := by
  unfold kl
  rw [if_pos h]
  exact kpt_length x _ (by unfold pos; omega)
/-- What Size answers. -/
noncomputable def sizeOf' (most : Nat) (x : List By) (tk : Nat) : Nat := if (rf most x).2.2 = 0 then tk - (kl most x).length else tk
set_option maxHeartbeats 4000000 in
theorem ksize_any (h : RdI rb B most x tk sv kv og w) (hx : x.length ≤ 140737488351232) : Calls Tryd.prog 22 #[.pointer (some ⟨rb, 0, none⟩)] w fun e w' => e = .returned (.int .i64 (sizeOf' most x tk : Nat)) ∧ Nw w w' := by
  obtain ⟨P, hP⟩ : ∃ P : Ending → World → Prop, P = fun e w' => e = .returned (.int .i64 (sizeOf' most x tk : Nat)) ∧ Nw w w' := ⟨_, rfl⟩
  rw [← hP]
  have HD : Hid (Calls Tryd.prog 20 #[.pointer (some ⟨rb, 0, none⟩)] w fun e w' => e = .returned (.bool (decide ((rf most x).2.2 = 0))) ∧ w = w') := kdone_any h
  have c2 := (row_cell h.row 2 _ rfl).1
  have c1 := (row_cell h.row 1 _ rfl).1
  obtain ⟨ka, kc, rfl, _, _⟩ := h.kp.form
  have c2d : w.drew.cell? ⟨rb, 2, none⟩ = some (.int .i64 tk) := c2
  have c1d : w.drew.cell? ⟨rb, 1, none⟩ = some (.slice ka (kl most x).length kc) := c1
  by_cases h0 : (rf most x).2.2 = 0
  · have hk := kl_len (.inr h0)
    have ht := h.tl (.inr h0)
    have hl := lft_le x (pos most x) (by unfold pos; omega)
    have HF : Hid (∀ V, Nw w V → P (.returned (.int .i64 (tk - (kl most x).length : Nat))) V) := fun V hV => by
      rw [hP, sizeOf', if_pos h0]; exact ⟨rfl, hV⟩
    rw [decide_eq_true h0] at HD
    have hle : (kl most x).length ≤ tk := by omega
    have htb : tk ≤ 140737488351232 := by omega
    generalize (kl most x).length = L at *
    have hs : (tk : Int) - (L : Int) = ((tk - L : Nat) : Int) := by omega
    have hNN : Nw w w := Fr.refl _ _
    clear hP h hk ht hl
    go_enter Tryd.func22, Tryd.ntmps22
    go_wp2_with (first | (go_at_call 20; (with_reducible refine HD.out.mono ?_); rintro e w1 ⟨rfl, rfl⟩))
    go_quiet (fail)
    all_goals go_wp2_with fail
    all_goals (first | exact HF.out _ (Fr.refl _ _) | exact HF.out _ (Fr.refl _ _).drew | exact HF.out _ ((Fr.refl _ _).drewN _))
  · have HF : Hid (P (.returned (.int .i64 tk)) w) := by
      show P _ _
      rw [hP, sizeOf', if_neg h0]; exact ⟨rfl, Fr.refl _ _⟩
    rw [decide_eq_false h0] at HD
    clear hP h
    generalize (kl most x).length = L at *
    go_enter Tryd.func22, Tryd.ntmps22
    go_wp2_with (first | (go_at_call 20; (with_reducible refine HD.out.mono ?_); rintro e w1 ⟨rfl, rfl⟩))
    exact HF.out
/-- What Rest answers. -/
noncomputable def restOf (most : Nat) (x : List By) : List By := if (rf most x).2.2 = 0 then kl most x else []
theorem krest_any (h : RdI rb B most x tk sv kv og w) (hx : x.length ≤ 140737488351232) : Calls Tryd.prog 21 #[.pointer (some ⟨rb, 0, none⟩)] w fun e w' => ∃ r, e = .returned r ∧ Mine (fun k => k < w.heap.size) r (restOf most x) w' ∧ Nw w w' := by
  obtain ⟨P, hP⟩ : ∃ P : Ending → World → Prop, P = fun e w' => ∃ r, e = .returned r ∧ Mine (fun k => k < w.heap.size) r (restOf most x) w' ∧ Nw w w' := ⟨_, rfl⟩
  rw [← hP]
  have HD : Hid (Calls Tryd.prog 20 #[.pointer (some ⟨rb, 0, none⟩)] w fun e w' => e = .returned (.bool (decide ((rf most x).2.2 = 0))) ∧ w = w') := kdone_any h
  have c1 := (row_cell h.row 1 _ rfl).1
  by_cases h0 : (rf most x).2.2 = 0
  · have hk := kl_len (.inr h0)
    have hl := lft_le x (pos most x) (by unfold pos; omega)
    have HC : Hid (Calls Tryd.prog 31 #[kv] w fun e w' => ∃ r, e = .returned r ∧ Hid (P (.returned r) w')) := by
      show Calls _ _ _ _ _
      refine (clone_any w kv (kl most x) ?_ (by omega)).mono ?_
      · have hkp := h.kp
        cases og with
        | none => obtain ⟨e1, e2⟩ := hkp; exact .inl ⟨none, e1, e2⟩
        | some g => exact hkp.old.mono (fun _ h => h.elim)
      · rintro e w1 ⟨r, rfl, h1, h2⟩
        refine ⟨r, rfl, ?_⟩
        show P _ _
        rw [hP, restOf, if_pos h0]
        exact ⟨r, rfl, h1, h2⟩
    rw [decide_eq_true h0] at HD
    clear hP h hk hl
    go_enter Tryd.func21, Tryd.ntmps21
    go_wp2_with (first | (go_at_call 20; (with_reducible refine HD.out.mono ?_); rintro e w1 ⟨rfl, rfl⟩) | (go_at_call 31; (with_reducible refine HC.out.mono ?_); rintro e w2 ⟨r, rfl, HF⟩))
    exact HF.out
  · have HF : Hid (P (.returned (.slice none 0 0)) w) := by
      show P _ _
      rw [hP, restOf, if_neg h0]; exact ⟨_, rfl, .inl ⟨rfl, rfl⟩, Fr.refl _ _⟩
    rw [decide_eq_false h0] at HD
    clear hP h
    go_enter Tryd.func21, Tryd.ntmps21
    go_wp2_with (first | (go_at_call 20; (with_reducible refine HD.out.mono ?_); rintro e w1 ⟨rfl, rfl⟩))
    exact HF.out
end Go.Proofs.YtincbbnppcpfpaaDoor

namespace Go.Proofs.YtincbbnppcpfpaaDoor
open Go.RowKit
set_option linter.unusedVariables false
variable {sb rb most told tk : Nat} {m : Mm} {s : Sx} {b : List By} {w : World}
/-- What goOn answers and leaves. -/
def Gon (rb sb : Nat) (b : List By) (most told sk : Nat) (m : Mm) (s : Sx) (tk : Nat) (w : World) (e : Ending) (w' : World) : Prop :=
  ∃ s' p' y a c og2 sv' kv' og', run most s (bt b sk) = (s', bt b p', y) ∧ p' ≤ 8 * b.length ∧ e = .returned (.tuple #[.slice a (s'.out.length - told) c, .int .i64 ((if y = 4 then 0 else y : Nat) : Int)]) ∧ told ≤ s'.out.length ∧
    w'.heap[rb]? = some (.cells #[sv', kv', .int .i64 tk, .int .i64 y] 71) ∧ Og og2 (.slice a (s'.out.length - told) c) (s'.out.drop told) w' ∧
    Og og' kv' (if y = 4 ∨ y = 0 then kpt b p' else []) w' ∧ (∀ g, og' = some g → w.heap.size ≤ g) ∧
    (y = 4 → sv' = .pointer (some ⟨sb, 0, none⟩) ∧ ∃ m' lf, SmI sb (Kt w') (.pointer none) (skp b p' : Nat) lf most s'.out.length m' s' w' ∧ m'.op = none ∧ Bd most p' s' ∧ ∀ g, m'.ow = some g → (m.ow = some g ∨ w.heap.size ≤ g) ∧ og' ≠ some g ∧ og2 ≠ some g) ∧
    (y ≠ 4 → sv' = .pointer none) ∧ Fr (fun k => k = rb ∨ k = sb ∨ m.ow = some k) w w' ∧ (∀ g, og2 = some g → g ≠ rb ∧ g ≠ sb ∧ og' ≠ some g ∧ (m.ow = some g ∨ w.heap.size ≤ g))
/-- From what read leaves to what goOn leaves. -/
theorem gon_fin {sk p' y : Nat} {s' : Sx} {m' : Mm} {K' : Nat → Prop} {lf : Int} {a : Option Addr} {c : Nat} {og2 og' : Option Nat} {sv' kv' : Value} {w1 V : World} {A : Array Value} (hrb : rb < w.heap.size) (hsr : rb ≠ sb) (hor : m.ow ≠ some rb)
    (r1 : run most s (bt b sk) = (s', bt b p', y)) (r3 : p' ≤ 8 * b.length) (r4 : Bd most p' s') (r5 : told ≤ s'.out.length) (r6 : SmI sb K' (.pointer none) (skp b p' : Nat) lf most s'.out.length m' s' w1) (r7 : m'.op = none) (r8 : Og og2 (.slice a (s'.out.length - told) c) (s'.out.drop told) w1) (r9 : ∀ g, og2 = some g → ¬ K' g ∧ g ≠ sb ∧ m'.ow ≠ some g) (r10 : ∀ k, (k < w.heap.size ∧ k ≠ sb ∧ m.ow ≠ some k) → K' k) (r12 : Fr (fun k => ¬ (k < w.heap.size ∧ k ≠ sb ∧ m.ow ≠ some k)) w w1)
    (hrow1 : w1.heap[rb]? = some (.cells A 71)) (f : Fr (fun k => k = rb) w1 V) (hV : V.heap[rb]? = some (.cells #[sv', kv', .int .i64 tk, .int .i64 y] 71)) (hk : Og og' kv' (if y = 4 ∨ y = 0 then kpt b p' else []) V) (hkn : ∀ g, og' = some g → w1.heap.size ≤ g) (h4 : y = 4 → sv' = .pointer (some ⟨sb, 0, none⟩)) (h5 : y ≠ 4 → sv' = .pointer none) :
    Gon rb sb b most told sk m s tk w (.returned (.tuple #[.slice a (s'.out.length - told) c, .int .i64 ((if y = 4 then 0 else y : Nat) : Int)])) V := by
  have hKr : K' rb := r10 rb ⟨hrb, hsr, hor⟩
  have hs1 := r12.size
  refine ⟨s', p', y, a, c, og2, sv', kv', og', r1, r3, rfl, r5, hV, r8.kept f (fun g hg e => (r9 g hg).1 (e ▸ hKr)), hk, fun g hg => Nat.le_trans hs1 (hkn g hg), fun e => ⟨h4 e, m', lf, ?_, r7, r4, fun g hg => ?_⟩, h5, ?_, fun g hg => ?_⟩
  · refine (r6.typed.keep f (fun e => hsr e.symm) (fun k hk e => ?_) (fun g hg e => (r6.nw g hg).1 (e ▸ hKr)) (fun g hg => by rw [r7] at hg; cases hg)).typed
    exact kt_no hrow1 (by decide) (by decide) (by decide) (e ▸ hk)
  · obtain ⟨q1, q2⟩ := r6.nw g hg
    refine ⟨?_, fun e => ?_, fun e => (r9 g e).2.2 hg⟩
    · by_cases hlt : g < w.heap.size
      · exact .inl (Classical.not_not.1 (fun hn => q1 (r10 g ⟨hlt, q2, hn⟩)))
      · exact .inr (by omega)
    · have h1 := hkn g e
      have h2 := r6.win.lt g hg
      omega
  · have f1 : Fr (fun k => k = rb ∨ k = sb ∨ m.ow = some k) w w1 := r12.mono (fun k hk => by
      by_cases hlt : k < w.heap.size
      · by_cases he : k = sb
        · exact .inl (.inr (.inl he))
        · exact .inl (.inr (.inr (Classical.not_not.1 (fun hn => hk ⟨hlt, he, hn⟩))))
      · exact .inr (by omega))
    exact f1.then f (fun k hk => .inl (.inl hk))
  · obtain ⟨q1, q2, q3⟩ := r9 g hg
    refine ⟨fun e => q1 (e ▸ hKr), q2, fun e => ?_, ?_⟩
    · have h1 := hkn g e
      have h2 := r8.lt g hg
      omega
    · by_cases hlt : g < w.heap.size
      · exact .inl (Classical.not_not.1 (fun hn => q1 (r10 g ⟨hlt, q2, hn⟩)))
      · exact .inr (by omega)
end Go.Proofs.YtincbbnppcpfpaaDoor

namespace Go.Proofs.YtincbbnppcpfpaaDoor
open Go.RowKit
set_option linter.unusedVariables false
variable {sb rb most told tk : Nat} {left : Int} {m : Mm} {s : Sx} {b : List By} {w : World}
theorem sl_cut {g c : Nat} {l : List By} (h : Ow g (.slice (some ⟨g, 0, none⟩) l.length c) l w) (f k : Nat) (hfk : f + k = l.length) (a2 : Option Addr) (X : Nat → Prop) (hX : ¬ X g) : (c = f → Sl X (.slice a2 k 0) (l.drop f) w) ∧ Sl X (.slice (some ⟨g, f, none⟩) k (c - f)) (l.drop f) w := by
  obtain ⟨o, c', e, h1, h2, h3⟩ := h.slb
  injection e with e1 _ e3
  injection e1 with e1
  injection e1 with _ e1
  subst e1 e3
  have hd : (l.drop f).length = k := by rw [List.length_drop]; omega
  refine ⟨fun hc => ?_, .inr ⟨g, hX, f, c - f, by rw [hd], by omega, by omega, ?_⟩⟩
  · obtain rfl : k = 0 := by omega
    exact .inl ⟨a2, rfl, List.eq_nil_of_length_eq_zero hd⟩
  · have := h3.drop f
    rw [Nat.zero_add] at this
    exact this
set_option maxHeartbeats 16000000 in
set_option maxRecDepth 100000 in
theorem kgoon_any {sk : Nat} {kv v : Value} (hrow : w.heap[rb]? = some (.cells #[.pointer (some ⟨sb, 0, none⟩), kv, .int .i64 tk, .int .i64 4] 71)) (h : SmI sb (Kt w) (.pointer none) sk left most told m s w) (hop : m.op = none) (hv : (v = .slice none 0 0 ∧ b = []) ∨ ∃ g, g ≠ sb ∧ m.ow ≠ some g ∧ g ≠ rb ∧ Ow g v b w) (hbl : b.length ≤ 140737488351232) (hsk : sk ≤ 7) (hsk2 : sk ≤ 8 * b.length) (hb : Bd most sk s) (hT : Tab w) (hsr : rb ≠ sb) (hor : m.ow ≠ some rb) (h0 : 0 ≠ sb ∧ m.ow ≠ some 0) :
    Calls Tryd.prog 41 #[.pointer (some ⟨rb, 0, none⟩), v] w (Gon rb sb b most told sk m s tk w) := by
  obtain ⟨P, hP⟩ : ∃ P : Ending → World → Prop, P = Gon rb sb b most told sk m s tk w := ⟨_, rfl⟩
  rw [← hP]
  have hrb : rb < w.heap.size := (Array.getElem?_eq_some_iff.1 hrow).1
  have h00 : 0 < w.heap.size := World.block_lt_of_cell? _ _ (hT 0 (by decide))
  have hW := h.wide hop
  have hsl : Sl (fun k => ¬ (k < w.heap.size ∧ k ≠ sb ∧ m.ow ≠ some k)) v b w := by
    rcases hv with ⟨rfl, rfl⟩ | ⟨g, g1, g2, g3, g4⟩
    · exact .inl ⟨none, rfl, rfl⟩
    · exact .inr ⟨g, fun hn => hn ⟨g4.lt, g1, g2⟩, g4.slb⟩
  have hRD := read_any' hW hop hsl (by omega) hsk hsk2 hb hT ⟨h00, h0.1, h0.2⟩
  -- what comes of it, from the world that read leaves on
  have HRD : Hid (Calls Tryd.prog 24 #[.pointer (some ⟨sb, 0, none⟩), v] w fun e w1 => ∃ pa n pc q y, e = .returned (.tuple #[.slice pa n pc, .int .i64 (q : Nat), .int .i64 (y : Nat)]) ∧ q ≤ b.length ∧ w1.cell? ⟨rb, 3, none⟩ = some (.int .i64 4) ∧ w1.frozen? ⟨rb, 3, none⟩ = false ∧ Hid (∀ vs, Sl (fun k => k = rb) vs (b.drop (b.length - q)) w1 → Calls Tryd.prog 31 #[vs] (w1.setCell ⟨rb, 3, none⟩ (.int .i64 y)) fun e w3 => ∃ ra rl rc, e = .returned (.slice ra rl rc) ∧ w3.cell? ⟨rb, 1, none⟩ = some kv ∧ w3.frozen? ⟨rb, 1, none⟩ = false ∧
      (w3.setCell ⟨rb, 1, none⟩ (.slice ra rl rc)).cell? ⟨rb, 0, none⟩ = some (.pointer (some ⟨sb, 0, none⟩)) ∧ (w3.setCell ⟨rb, 1, none⟩ (.slice ra rl rc)).frozen? ⟨rb, 0, none⟩ = false ∧ ((w3.setCell ⟨rb, 1, none⟩ (.slice ra rl rc)).setCell ⟨rb, 0, none⟩ (.pointer none)).cell? ⟨rb, 1, none⟩ = some (.slice ra rl rc) ∧ ((w3.setCell ⟨rb, 1, none⟩ (.slice ra rl rc)).setCell ⟨rb, 0, none⟩ (.pointer none)).frozen? ⟨rb, 1, none⟩ = false ∧
      Hid ((y = 4 → P (.returned (.tuple #[.slice pa n pc, .int .i64 0])) (w3.setCell ⟨rb, 1, none⟩ (.slice ra rl rc))) ∧ (y = 0 → P (.returned (.tuple #[.slice pa n pc, .int .i64 y])) ((w3.setCell ⟨rb, 1, none⟩ (.slice ra rl rc)).setCell ⟨rb, 0, none⟩ (.pointer none))) ∧ (y ≠ 4 → y ≠ 0 → P (.returned (.tuple #[.slice pa n pc, .int .i64 y])) (((w3.setCell ⟨rb, 1, none⟩ (.slice ra rl rc)).setCell ⟨rb, 0, none⟩ (.pointer none)).setCell ⟨rb, 1, none⟩ (.slice none 0 0)))))
      ∧ Hid (∀ g l c, Ow g (.slice (some ⟨g, 0, none⟩) l c) b w → g ≠ sb → m.ow ≠ some g → Ow g (.slice (some ⟨g, 0, none⟩) l c) b w1)) := hRD.mono (by
    rintro e w1 ⟨s', p', m', K', y, pa, pc, lf, r1, r2, r3, r4, r5, r6, r7, ⟨og2, r8, r9⟩, r10, r11, r12⟩
    have hrow1 : w1.heap[rb]? = some (.cells #[.pointer (some ⟨sb, 0, none⟩), kv, .int .i64 tk, .int .i64 4] 71) := (r12.block rb hrb (fun hn => hn ⟨hrb, hsr, hor⟩)).trans hrow
    refine ⟨pa, _, pc, _, y, r2, by omega, (row_cell hrow1 3 _ rfl).1, (row_cell hrow1 3 (.int .i64 4) rfl).2, ?_, fun g l c hg n1 n2 => hg.kept r12 (fun hn => hn ⟨hg.lt, n1, n2⟩)⟩
    intro vs hvs
    have f2 : Fr (fun k => k = rb) w1 (w1.setCell ⟨rb, 3, none⟩ (.int .i64 y)) := (Fr.refl _ _).setCell _ _ (.inl rfl)
    have hsl2 : Sl (fun _ => False) vs (b.drop (b.length - (8 * b.length - p' + 7) / 8)) (w1.setCell ⟨rb, 3, none⟩ (.int .i64 y)) := (hvs.kept f2 (fun g hg => hg)).mono (fun _ h => h.elim)
    refine (clone_any _ vs _ hsl2 (by rw [List.length_drop]; omega)).mono ?_
    rintro e w3 ⟨r, rfl, hM, hN⟩
    obtain ⟨ra, rc, hrr, _, _⟩ := hM.sl.form
    obtain ⟨rl, hrl⟩ : ∃ rl, rl = (b.drop (b.length - (8 * b.length - p' + 7) / 8)).length := ⟨_, rfl⟩
    rw [← hrl] at hrr
    have row2 : (w1.setCell ⟨rb, 3, none⟩ (.int .i64 y)).heap[rb]? = some (.cells #[.pointer (some ⟨sb, 0, none⟩), kv, .int .i64 tk, .int .i64 y] 71) := row_set hrow1 3 _
    have row3 := hN.heap row2
    have row4 : (w3.setCell ⟨rb, 1, none⟩ r).heap[rb]? = some (.cells #[.pointer (some ⟨sb, 0, none⟩), r, .int .i64 tk, .int .i64 y] 71) := row_set row3 1 _
    have row5 : ((w3.setCell ⟨rb, 1, none⟩ r).setCell ⟨rb, 0, none⟩ (.pointer none)).heap[rb]? = some (.cells #[.pointer none, r, .int .i64 tk, .int .i64 y] 71) := row_set row4 0 _
    have row6 : (((w3.setCell ⟨rb, 1, none⟩ r).setCell ⟨rb, 0, none⟩ (.pointer none)).setCell ⟨rb, 1, none⟩ (.slice none 0 0)).heap[rb]? = some (.cells #[.pointer none, .slice none 0 0, .int .i64 tk, .int .i64 y] 71) := row_set row5 1 _
    have f3 : Fr (fun k => k = rb) w1 w3 := f2.trans hN.any
    have g4 : Fr (fun k => k = rb) w3 (w3.setCell ⟨rb, 1, none⟩ r) := (Fr.refl _ _).setCell _ _ (.inl rfl)
    have g5 : Fr (fun k => k = rb) w3 ((w3.setCell ⟨rb, 1, none⟩ r).setCell ⟨rb, 0, none⟩ (.pointer none)) := g4.setCell _ _ (.inl rfl)
    have g6 : Fr (fun k => k = rb) w3 (((w3.setCell ⟨rb, 1, none⟩ r).setCell ⟨rb, 0, none⟩ (.pointer none)).setCell ⟨rb, 1, none⟩ (.slice none 0 0)) := g5.setCell _ _ (.inl rfl)
    obtain ⟨og', ho1, ho2⟩ : ∃ og', Og og' r (kpt b p') w3 ∧ ∀ g, og' = some g → w1.heap.size ≤ g := by
      rcases hM with ⟨e1, e2⟩ | ⟨g, e1, e2⟩
      · exact ⟨none, ⟨e1, e2⟩, fun g hg => by cases hg⟩
      · exact ⟨some g, e2, fun g' hg => by injection hg with hg; subst hg; have := f2.size; omega⟩
    have hlt1 : rb < w1.heap.size := (Array.getElem?_eq_some_iff.1 hrow1).1
    have hno : ∀ g, og' = some g → ¬ g = rb := fun g hg e => by have := ho2 g hg; omega
    subst hrr
    refine ⟨ra, rl, rc, rfl, (row_cell row3 1 _ rfl).1, (row_cell row3 1 kv rfl).2, (row_cell row4 0 _ rfl).1, (row_cell row4 0 (.pointer (some ⟨sb, 0, none⟩)) rfl).2, (row_cell row5 1 _ rfl).1, (row_cell row5 1 (.slice ra rl rc) rfl).2, fun e => ?_, fun e => ?_, fun e1 e2 => ?_⟩
    · rw [hP]
      have := gon_fin (tk := tk) (told := told) hrb hsr hor r1 r3 r4 r5 r6 r7 r8 r9 r10 r12 hrow1 (f3.trans g4) row4 (og' := og') (by rw [if_pos (.inl e)]; exact ho1.kept g4 hno) ho2 (fun _ => rfl) (fun hn => absurd e hn)
      rw [if_pos e] at this
      exact this
    · rw [hP]
      have := gon_fin (tk := tk) (told := told) hrb hsr hor r1 r3 r4 r5 r6 r7 r8 r9 r10 r12 hrow1 (f3.trans g5) row5 (og' := og') (by rw [if_pos (.inr e)]; exact ho1.kept g5 hno) ho2 (fun e4 => by omega) (fun hn => rfl)
      rw [if_neg (by omega)] at this
      exact this
    · rw [hP]
      have := gon_fin (tk := tk) (told := told) hrb hsr hor r1 r3 r4 r5 r6 r7 r8 r9 r10 r12 hrow1 (f3.trans g6) row6 (og' := none) (by rw [if_neg (by omega)]; exact ⟨rfl, rfl⟩) (fun g hg => by cases hg) (fun e4 => absurd e4 e1) (fun hn => rfl)
      rw [if_neg e1] at this
      exact this)
  have c0 := (row_cell hrow 0 _ rfl).1
  clear hRD hP hrow h hop hsl hb hT hW hsk hsk2 hsr hor h0 h00 hrb
  rcases hv with ⟨rfl, rfl⟩ | ⟨g, g1, g2, g3, g4⟩
  · simp only [List.length_nil] at HRD
    go_enter Tryd.func41, Tryd.ntmps41
    go_upto_region 2 with (first | (go_at_call 24; (with_reducible refine HRD.out.mono ?_); rintro e w1 ⟨pa, n, pc, q, y, rfl, hq, z30, z31, HC, HO⟩))
    obtain rfl : q = 0 := by omega
    have HCL : Hid (Calls Tryd.prog 31 #[.slice none 0 0] (w1.setCell ⟨rb, 3, none⟩ (.int .i64 y)) _) := HC.out (.slice none 0 0) (.inl ⟨none, rfl, by simp⟩)
    clear HC HO HRD
    by_cases h4 : y = 4
    · have hz4 : ((y : Int) == 4) = true := by rw [h4]; rfl
      have H4 : Hid (y = 4) := h4
      clear h4
      go_wp2_with (first | (go_at_call 31; (with_reducible refine HCL.out.mono ?_); rintro e w3 ⟨ra, rl, rc, rfl, x10, x11, x00, x01, y10, y11, HF⟩))
      exact HF.out.1 H4.out
    · have hz4 : ((y : Int) == 4) = false := by simp only [beq_eq_false_iff_ne, ne_eq]; omega
      by_cases h0 : y = 0
      · have hz0 : ((y : Int) == 0) = true := by rw [h0]; rfl
        have H0 : Hid (y = 0) := h0
        clear h0
        go_wp2_with (first | (go_at_call 31; (with_reducible refine HCL.out.mono ?_); rintro e w3 ⟨ra, rl, rc, rfl, x10, x11, x00, x01, y10, y11, HF⟩))
        exact HF.out.2.1 H0.out
      · have hz0 : ((y : Int) == 0) = false := by simp only [beq_eq_false_iff_ne, ne_eq]; omega
        go_wp2_with (first | (go_at_call 31; (with_reducible refine HCL.out.mono ?_); rintro e w3 ⟨ra, rl, rc, rfl, x10, x11, x00, x01, y10, y11, HF⟩))
        exact HF.out.2.2 h4 h0
  · obtain ⟨xs, hvv, _⟩ := id g4
    obtain ⟨c, hc⟩ : ∃ c, c = xs.length := ⟨_, rfl⟩
    rw [← hc] at hvv
    subst hvv
    have hcl : b.length ≤ c := by
      obtain ⟨xs2, e1, _, e3, _⟩ := id g4
      injection e1 with _ _ e1
      omega
    have HG : Hid (Ow g (.slice (some ⟨g, 0, none⟩) b.length c) b w) := g4
    have HB : Hid (b = b) := rfl
    clear hc g4
    obtain ⟨L, hL⟩ : ∃ L, b.length = L := ⟨_, rfl⟩
    have HLb : Hid (b.length = L) := hL
    rw [hL] at hbl hcl HRD HG ⊢
    clear hL
    go_enter Tryd.func41, Tryd.ntmps41
    go_upto_region 2 with (first | (go_at_call 24; (with_reducible refine HRD.out.mono ?_); rintro e w1 ⟨pa, n, pc, q, y, rfl, hq, z30, z31, HC, HO⟩))
    have hOw := HO.out g L c HG.out g1 g2
    rw [← HLb.out] at hOw
    obtain ⟨d1, d2⟩ := sl_cut hOw (L - q) q (by rw [HLb.out]; omega) none (fun k => k = rb) g3
    have hs1 : (L : Int) - (q : Int) = ((L - q : Nat) : Int) := by omega
    obtain ⟨f, hf⟩ : ∃ f, f = L - q := ⟨_, rfl⟩
    rw [← hf] at d1 d2 hs1 HC
    have hfb : f ≤ 140737488351232 := by omega
    have hz1 : (f : Int) ≤ (L : Int) := by omega
    have hz2 : (L : Int) ≤ (c : Int) := by omega
    have hLf : L - f = q := by omega
    clear hf
    by_cases hcf : c = f
    · have HCL : Hid (∀ a2, Calls Tryd.prog 31 #[.slice a2 q 0] (w1.setCell ⟨rb, 3, none⟩ (.int .i64 y)) _) := fun a2 => HC.out (.slice a2 q 0) ((sl_cut hOw f q (by rw [HLb.out]; omega) a2 (fun k => k = rb) g3).1 hcf)
      clear HC HO HRD d1 d2 hOw HG
      by_cases h4 : y = 4
      · have hz4 : ((y : Int) == 4) = true := by rw [h4]; rfl
        have H4 : Hid (y = 4) := h4
        clear h4
        go_wp2_with (first | (go_at_call 31; (with_reducible refine (HCL.out _).mono ?_); rintro e w3 ⟨ra, rl, rc, rfl, x10, x11, x00, x01, y10, y11, HF⟩))
        exact HF.out.1 H4.out
      · have hz4 : ((y : Int) == 4) = false := by simp only [beq_eq_false_iff_ne, ne_eq]; omega
        by_cases h0 : y = 0
        · have hz0 : ((y : Int) == 0) = true := by rw [h0]; rfl
          have H0 : Hid (y = 0) := h0
          clear h0
          go_wp2_with (first | (go_at_call 31; (with_reducible refine (HCL.out _).mono ?_); rintro e w3 ⟨ra, rl, rc, rfl, x10, x11, x00, x01, y10, y11, HF⟩))
          exact HF.out.2.1 H0.out
        · have hz0 : ((y : Int) == 0) = false := by simp only [beq_eq_false_iff_ne, ne_eq]; omega
          go_wp2_with (first | (go_at_call 31; (with_reducible refine (HCL.out _).mono ?_); rintro e w3 ⟨ra, rl, rc, rfl, x10, x11, x00, x01, y10, y11, HF⟩))
          exact HF.out.2.2 h4 h0
    · have HCL : Hid (Calls Tryd.prog 31 #[.slice (some ⟨g, f, none⟩) q (c - f)] (w1.setCell ⟨rb, 3, none⟩ (.int .i64 y)) _) := HC.out _ d2
      clear HC HO HRD d1 d2 hOw HG
      by_cases h4 : y = 4
      · have hz4 : ((y : Int) == 4) = true := by rw [h4]; rfl
        have H4 : Hid (y = 4) := h4
        clear h4
        go_wp2_with (first | (go_at_call 31; (with_reducible refine HCL.out.mono ?_); rintro e w3 ⟨ra, rl, rc, rfl, x10, x11, x00, x01, y10, y11, HF⟩))
        exact HF.out.1 H4.out
      · have hz4 : ((y : Int) == 4) = false := by simp only [beq_eq_false_iff_ne, ne_eq]; omega
        by_cases h0 : y = 0
        · have hz0 : ((y : Int) == 0) = true := by rw [h0]; rfl
          have H0 : Hid (y = 0) := h0
          clear h0
          go_wp2_with (first | (go_at_call 31; (with_reducible refine HCL.out.mono ?_); rintro e w3 ⟨ra, rl, rc, rfl, x10, x11, x00, x01, y10, y11, HF⟩))
          exact HF.out.2.1 H0.out
        · have hz0 : ((y : Int) == 0) = false := by simp only [beq_eq_false_iff_ne, ne_eq]; omega
          go_wp2_with (first | (go_at_call 31; (with_reducible refine HCL.out.mono ?_); rintro e w3 ⟨ra, rl, rc, rfl, x10, x11, x00, x01, y10, y11, HF⟩))
          exact HF.out.2.2 h4 h0
end Go.Proofs.YtincbbnppcpfpaaDoor

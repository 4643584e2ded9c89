import Derived.Test.YtkpkiajehclbhaaVbq
namespace Go.Proofs.Ytkpkiajehclbhaa
open Go.RowKit
set_option linter.unusedVariables false
/-! ### What is in the packages: only that it can be read -/
def IkI (n B : Nat) (D : Nat → Prop) (ps : List Pk) (w : World) : Prop := ∀ p ∈ ps, ∃ l : List Nat, l.length = n ∧ (∀ x ∈ l, x ≤ B) ∧ p.2.2.1 = n ∧ SlR RI D (.slice p.2.1 p.2.2.1 p.2.2.2) (toI l) w
theorem IkI.kept {n B : Nat} {D Y : Nat → Prop} {ps : List Pk} {w w' : World} (h : IkI n B D ps w) (k : Fr Y w w') (hy : ∀ g, Y g → D g) : IkI n B D ps w' := fun p hp => by
  obtain ⟨l, h1, h2, h3, h4⟩ := h p hp
  exact ⟨l, h1, h2, h3, h4.kept k hy⟩
theorem IkI.nw {n B : Nat} {D : Nat → Prop} {ps : List Pk} {w w' : World} (h : IkI n B D ps w) (k : Nw w w') : IkI n B D ps w' := h.kept k (fun _ h => h.elim)
theorem IkI.mono {n B B' : Nat} {D D' : Nat → Prop} {ps : List Pk} {w : World} (h : IkI n B D ps w) (hB : B ≤ B') (hD : ∀ g, D' g → D g) : IkI n B' D' ps w := fun p hp => by
  obtain ⟨l, h1, h2, h3, h4⟩ := h p hp
  exact ⟨l, h1, fun x hx => Nat.le_trans (h2 x hx) hB, h3, h4.mono hD⟩
theorem IkI.sub {n B : Nat} {D : Nat → Prop} {ps qs : List Pk} {w : World} (h : IkI n B D ps w) (hs : ∀ p ∈ qs, p ∈ ps) : IkI n B D qs w := fun p hp => h p (hs p hp)
/-- Blocks that are not there yet hold nothing of it. -/
theorem IkI.fresh {n B : Nat} {D : Nat → Prop} {ps : List Pk} {w : World} (h : IkI n B D ps w) (hn : 0 < n) : IkI n B (fun k => D k ∨ w.heap.size ≤ k) ps w := fun p hp => by
  obtain ⟨l, h1, h2, h3, h4⟩ := h p hp
  refine ⟨l, h1, h2, h3, ?_⟩
  rcases h4 with ⟨a, e1, e2⟩ | ⟨g, o, c, q1, q2, q3, q4, q5⟩
  · have hz := congrArg List.length e2
    rw [toI_length, List.length_nil] at hz
    omega
  · refine .inr ⟨g, o, c, fun hd => ?_, q2, q3, q4, q5⟩
    rcases hd with hd | hd
    · exact q1 hd
    · have h0 : (toI l)[0]? = some ((l.getD 0 0 : Nat) : Int) := toI_at l 0 (by omega)
      have := World.block_lt_of_cell? _ _ (q5 0 _ 0 _ h0 rfl)
      simp only at this
      omega
/-- A package more. -/
theorem pk_push (wr V : World) (g S c n B : Nat) (ss : List Pk) (h : OwR RP g (.slice (some ⟨g, 0, none⟩) S c) ss wr) (hS : ss.length = S) (hS2 : S ≤ 10000) (hk : IkI n B (fun k => k = g) ss wr) (hn : 0 < n) (hV : Nw wr V) (p : Pk) (l : List Nat) (hl : l.length = n) (hb : ∀ x ∈ l, x ≤ B) (hp : p.2.2.1 = n) (hsl : SlR RI (fun k => k < wr.heap.size ∨ V.heap.size ≤ k) (.slice p.2.1 p.2.2.1 p.2.2.2) (toI l) V) :
    ∃ g' c' W, Hid (∀ ty, (Builtin.append_ #[105, 105] ty #[.slice (some ⟨g, 0, none⟩) S c, .slice (some ⟨V.heap.size, 0, none⟩) 1 1]).run Try.prog (V.alloc (.cells #[.int .i64 (p.1 : Nat), .slice p.2.1 p.2.2.1 p.2.2.2] 107)) = .ok (.slice (some ⟨g', 0, none⟩) (S + 1) c') W) ∧ OwR RP g' (.slice (some ⟨g', 0, none⟩) (S + 1) c') (ss ++ [p]) W ∧ IkI n B (fun k => k = g') (ss ++ [p]) W ∧ Fr (fun k => k = g) V W ∧ (g' = g ∨ V.heap.size ≤ g') := by
  have hlt := h.lt
  obtain ⟨g', c', W, b1, b2, b3, b4, b5, b6⟩ := ow_push rpOk V g S c ss (h.nw hV) hS p #[.int .i64 (p.1 : Nat), .slice p.2.1 p.2.2.1 p.2.2.2] rfl (by simp only [RP]; omega) (by omega)
  refine ⟨g', c', W, b1, b2, fun q hq => ?_, b3, b4⟩
  rcases List.mem_append.1 hq with hq | hq
  · have hk2 := ((hk.nw hV).fresh hn).kept b3 (fun k hk => .inl hk)
    obtain ⟨l', r1, r2, r3, r4⟩ := hk2 q hq
    refine ⟨l', r1, r2, r3, r4.mono (fun k hk => ?_)⟩
    rcases b4 with e | e
    · exact .inl (by rw [hk, e])
    · exact .inr (by rw [hk]; exact e)
  · simp only [List.mem_singleton] at hq
    subst hq
    refine ⟨l, hl, hb, hp, (hsl.kept b3 (fun k hk => .inl (by rw [hk]; exact hlt))).mono (fun k hk => ?_)⟩
    rcases b4 with e | e
    · exact .inl (by rw [hk, e]; exact hlt)
    · exact .inr (by rw [hk]; exact e)
/-- The packages of single symbols. -/
def L1I (w : World) (os : List Int) (I g S c : Nat) (wr : World) : Prop := ∃ ss : List Pk, ss.length = S ∧ OwR RP g (.slice (some ⟨g, 0, none⟩) S c) ss wr ∧ ss.map Prod.fst = nums os (psy os I) ∧ IkI os.length 1 (fun k => k = g) ss wr ∧ w.heap.size ≤ g ∧ Nw w wr
theorem L1I.start (w : World) (os : List Int) : L1I w os 0 w.heap.size 0 0 (w.alloc (.cells #[] 107)) := ⟨[], rfl, OwR.empty (R := RP) w, by simp [psy, nums], (fun p hp => by cases hp), Nat.le_refl _, (Fr.refl _ _).alloc _⟩
theorem L1I.skip {w : World} {os : List Int} {I g S c : Nat} {wr : World} (h : L1I w os I g S c wr) (hx : ¬ 0 < kof os I) : L1I w os (I + 1) g S c wr := by
  obtain ⟨ss, h1, h2, h3, h4⟩ := h
  exact ⟨ss, h1, h2, by rw [h3, psy_succ, if_neg hx], h4⟩
theorem L1I.push {w : World} {os : List Int} {I g S c : Nat} {wr V : World} (h : L1I w os I g S c wr) (hS : S ≤ 10000) (hI : I < os.length) (ho320 : os.length ≤ 320) (hx : 0 < kof os I) (hV : Nw wr V) (C : Nat) (hC : kof os I = C) (gi : Nat) (hgi : wr.heap.size ≤ gi) (hrow : SwR RI gi (toI ((List.replicate os.length 0).set I 1)) V) :
    ∃ g' c' W, Hid (∀ ty, (Builtin.append_ #[105, 105] ty #[.slice (some ⟨g, 0, none⟩) S c, .slice (some ⟨V.heap.size, 0, none⟩) 1 1]).run Try.prog (V.alloc (.cells #[.int .i64 (C : Nat), .slice (some ⟨gi, 0, none⟩) os.length os.length] 107)) = .ok (.slice (some ⟨g', 0, none⟩) (S + 1) c') W) ∧ L1I w os (I + 1) g' (S + 1) c' W ∧ S + 1 ≤ c' ∧ c' < 9223372036854775808 := by
  obtain ⟨ss, h1, h2, h3, h4, h5, h6⟩ := h
  have hll : ((List.replicate os.length 0).set I 1).length = os.length := by simp
  have hs : SlR RI (fun k => k < wr.heap.size ∨ V.heap.size ≤ k) (.slice (some ⟨gi, 0, none⟩) os.length os.length) (toI ((List.replicate os.length 0).set I 1)) V := by
    have ho : OwR RI gi (.slice (some ⟨gi, 0, none⟩) os.length os.length) (toI ((List.replicate os.length 0).set I 1)) V := by
      refine ⟨toI ((List.replicate os.length 0).set I 1), by rw [toI_length, hll], List.take_length, Nat.le_refl _, ?_, hrow⟩
      rw [toI_length, hll]
      omega
    refine (ho.slr riOk).mono (fun k hk he => ?_)
    have := hrow.lt
    omega
  obtain ⟨g', c', W, k1, k2, k3, k4, k5⟩ := pk_push wr V g S c os.length 1 ss h2 h1 hS h4 (by omega) hV (C, some ⟨gi, 0, none⟩, os.length, os.length) _ hll (fun x hx => by
    rcases List.mem_or_eq_of_mem_set hx with hx | rfl
    · rw [List.mem_replicate] at hx; omega
    · exact Nat.le_refl _) rfl hs
  obtain ⟨c2, e2, q1, q2⟩ := k2.form
  have e3 : (ss ++ [((C, some ⟨gi, 0, none⟩, os.length, os.length) : Pk)]).length = S + 1 := by simp [h1]
  rw [e3] at e2 q1
  cases e2
  refine ⟨g', c', W, k1, ⟨_, e3, k2, ?_, k3, ?_, Fr.then (h6.trans hV) k4 (fun i hi => .inr (by rw [hi]; exact h5))⟩, q1, q2⟩
  · rw [List.map_append, h3, psy_succ, if_pos hx]
    simp [nums, hC]
  · have := h6.size
    have := hV.size
    rcases k5 with e | e <;> omega
end Go.Proofs.Ytkpkiajehclbhaa

import Derived.Test.YtcogkhcfpgelhabGreatVgB
namespace Go.Proofs.YtcogkhcfpgelhabGreat
open Go.RowKit
set_option linter.unusedVariables false
set_option maxRecDepth 100000
variable {w : World}
set_option maxHeartbeats 4000000 in
theorem load_root (nodes bytes : Int) (lb : Nat) (hlb : w.heap[lb]? = some (.cells rootC 44)) : Calls Tryz.prog 9 #[.agg #[.int .i64 nodes, .int .i64 bytes, .int .i64 2, .slice (some ⟨lb, 0, none⟩) 1 1]] w fun e w' => (newOk nodes bytes = false ∧ e = .returned (.tuple #[.pointer none, .int .i64 3]) ∧ Nw w w') ∨ (newOk nodes bytes = true ∧ ∃ fb mb, e = .returned (.tuple #[.pointer (some ⟨fb, 0, none⟩), .int .i64 0]) ∧ NewFs nodes bytes w fb mb w') := by
  obtain ⟨P, hP⟩ : ∃ P : Ending → World → Prop, P = fun e w' => (newOk nodes bytes = false ∧ e = .returned (.tuple #[.pointer none, .int .i64 3]) ∧ Nw w w') ∨ (newOk nodes bytes = true ∧ ∃ fb mb, e = .returned (.tuple #[.pointer (some ⟨fb, 0, none⟩), .int .i64 0]) ∧ NewFs nodes bytes w fb mb w') := ⟨_, rfl⟩
  rw [← hP]
  obtain ⟨V, hV⟩ : ∃ V, V = w.alloc (.cells #[.int .i64 nodes, .int .i64 bytes, .int .i64 2, .slice (some ⟨lb, 0, none⟩) 1 1] 24) := ⟨_, rfl⟩
  have hN : Nw w V := by rw [hV]; exact (Fr.refl _ _).alloc _
  have HL : Hid (∀ W, Nw V W → W.cell? ⟨w.heap.size, 0, none⟩ = some (.int .i64 nodes) ∧ W.cell? ⟨w.heap.size, 1, none⟩ = some (.int .i64 bytes) ∧ W.cell? ⟨w.heap.size, 2, none⟩ = some (.int .i64 2) ∧ W.cell? ⟨w.heap.size, 3, none⟩ = some (.slice (some ⟨lb, 0, none⟩) 1 1)) := fun W hW => by
    refine ⟨hW.cell ?_, hW.cell ?_, hW.cell ?_, hW.cell ?_⟩
    · rw [hV]; exact (rc (nh w _) 0 _ rfl).1
    · rw [hV]; exact (rc (nh w _) 1 _ rfl).1
    · rw [hV]; exact (rc (nh w _) 2 _ rfl).1
    · rw [hV]; exact (rc (nh w _) 3 _ rfl).1
  have HVl : Hid (Calls Tryz.prog 32 #[.agg #[.int .i64 nodes, .int .i64 bytes, .int .i64 2, .slice (some ⟨lb, 0, none⟩) 1 1]] V fun e w' => e = .returned (.bool (newOk nodes bytes)) ∧ Hid (Nw V w') ∧ w'.cell? ⟨w.heap.size, 0, none⟩ = some (.int .i64 nodes) ∧ w'.cell? ⟨w.heap.size, 1, none⟩ = some (.int .i64 bytes) ∧ w'.cell? ⟨w.heap.size, 2, none⟩ = some (.int .i64 2) ∧ w'.cell? ⟨w.heap.size, 3, none⟩ = some (.slice (some ⟨lb, 0, none⟩) 1 1)) := (valid_root nodes bytes lb (hN.heap hlb)).mono (fun e w' hh => ⟨hh.1, hh.2, HL.out w' hh.2⟩)
  have HBd : Hid (∀ W, Nw V W → Calls Tryz.prog 33 #[.agg #[.int .i64 nodes, .int .i64 bytes, .int .i64 2, .slice (some ⟨lb, 0, none⟩) 1 1]] W fun e w' => ∃ fb mb, e = .returned (.pointer (some ⟨fb, 0, none⟩)) ∧ Hid (NewFs nodes bytes w fb mb w')) := fun W hW => by
    refine Calls.mono (build_root nodes bytes lb ((hN.trans hW).heap hlb)) ?_
    rintro e w' ⟨fb, mb, rfl, L, h1, h2, h3⟩
    have hs := (hN.trans hW).size
    exact ⟨fb, mb, rfl, L, h1, (hN.trans hW).trans h2, fun k hk => by have := h3 k hk; omega⟩
  have HW := tHid hV
  have HNW := tHid hN
  obtain ⟨i0, i1, i2, i3⟩ := HL.out V (Fr.refl _ _)
  clear hV hlb hN HL
  by_cases hok : newOk nodes bytes = true
  · have HF : Hid (∀ fb mb W, NewFs nodes bytes w fb mb W → P (.returned (.tuple #[.pointer (some ⟨fb, 0, none⟩), .int .i64 0])) W) := fun fb mb W h => by rw [hP]; exact .inr ⟨hok, fb, mb, rfl, h⟩
    rw [hok] at HVl
    clear hok hP
    go_enter Tryz.func9, Tryz.ntmps9
    go_upto_region 1 with fail
    rw [← HW.out]
    clear HW
    go_wp2_with (first | (go_at_call 32; with_reducible refine HVl.out.mono ?_; rintro e w2 ⟨rfl, H2, j0, j1, j2, j3⟩) | (go_at_call 33; with_reducible refine (HBd.out _ H2.out).mono ?_; rintro e w3 ⟨fb, mb, rfl, H3⟩))
    exact HF.out _ _ _ H3.out
  · have hok2 : newOk nodes bytes = false := by simpa using hok
    have HF : Hid (∀ W, Nw w W → P (.returned (.tuple #[.pointer none, .int .i64 3])) W) := fun W h => by rw [hP]; exact .inl ⟨hok2, rfl, h⟩
    rw [hok2] at HVl
    clear hok hok2 hP HBd
    go_enter Tryz.func9, Tryz.ntmps9
    go_upto_region 1 with fail
    rw [← HW.out]
    clear HW
    go_wp2_with (first | (go_at_call 32; with_reducible refine HVl.out.mono ?_; rintro e w2 ⟨rfl, H2, j0, j1, j2, j3⟩))
    exact HF.out _ (HNW.out.trans H2.out)
set_option maxHeartbeats 4000000 in
theorem new_any (nodes bytes : Int) (w : World) : Calls Tryz.prog 24 #[.int .i64 nodes, .int .i64 bytes] w fun e w' => (newOk nodes bytes = false ∧ e = .returned (.tuple #[.pointer none, .int .i64 1]) ∧ Nw w w') ∨ (newOk nodes bytes = true ∧ ∃ fb mb, e = .returned (.tuple #[.pointer (some ⟨fb, 0, none⟩), .int .i64 0]) ∧ NewFs nodes bytes w fb mb w') := by
  obtain ⟨P, hP⟩ : ∃ P : Ending → World → Prop, P = fun e w' => (newOk nodes bytes = false ∧ e = .returned (.tuple #[.pointer none, .int .i64 1]) ∧ Nw w w') ∨ (newOk nodes bytes = true ∧ ∃ fb mb, e = .returned (.tuple #[.pointer (some ⟨fb, 0, none⟩), .int .i64 0]) ∧ NewFs nodes bytes w fb mb w') := ⟨_, rfl⟩
  rw [← hP]
  obtain ⟨V, hV⟩ : ∃ V, V = w.alloc (.cells rootC 44) := ⟨_, rfl⟩
  have hN : Nw w V := by rw [hV]; exact (Fr.refl _ _).alloc _
  have hlb : V.heap[w.heap.size]? = some (.cells rootC 44) := by rw [hV]; exact nh _ _
  have HLd : Hid (Calls Tryz.prog 9 #[.agg #[.int .i64 nodes, .int .i64 bytes, .int .i64 2, .slice (some ⟨w.heap.size, 0, none⟩) 1 1]] V fun e w' => (e = .returned (.tuple #[.pointer none, .int .i64 3]) ∧ Hid (P (.returned (.tuple #[.pointer none, .int .i64 1])) w')) ∨ (∃ fb, e = .returned (.tuple #[.pointer (some ⟨fb, 0, none⟩), .int .i64 0]) ∧ Hid (P (.returned (.tuple #[.pointer (some ⟨fb, 0, none⟩), .int .i64 0])) w'))) := by
    refine Calls.mono (load_root nodes bytes w.heap.size hlb) ?_
    rintro e w' (⟨h1, rfl, h2⟩ | ⟨h1, fb, mb, rfl, L, h2, h3, h4⟩)
    · exact .inl ⟨rfl, by show P _ _; rw [hP]; exact .inl ⟨h1, rfl, hN.trans h2⟩⟩
    · have hs := hN.size
      exact .inr ⟨fb, rfl, by show P _ _; rw [hP]; exact .inr ⟨h1, fb, mb, rfl, L, h2, hN.trans h3, fun k hk => by have := h4 k hk; omega⟩⟩
  have HW := tHid hV
  clear hV hlb hN hP
  unfold rootC at HW
  go_enter Tryz.func24, Tryz.ntmps24
  go_upto_region 2 with fail
  rw [← HW.out]
  clear HW
  go_wp2_with fail
  go_at_call 9
  with_reducible refine HLd.out.mono ?_
  rintro e w2 (⟨rfl, HF⟩ | ⟨fb, rfl, HF⟩)
  · go_wp2_with fail
    exact HF.out
  · go_wp2_with fail
    exact HF.out
/-! ### A file system among others' blocks -/
/-- A file system made since D, that has none of the blocks of X. -/
def FsD (D : World) (X : Nat → Prop) (fb mb : Nat) (h : Hx) (q : Int → Option Pn) (cnt : Nat) (T : List Ac) (w : World) : Prop := ∃ ot L, FsH fb mb ot L h q cnt T w ∧ (∀ k, Bk fb mb ot L q k → D.heap.size ≤ k ∧ ¬ X k) ∧ Nw D w ∧ ∀ k, X k → k < w.heap.size
/-- What a call may turn. -/
abbrev FrD (D : World) (X : Nat → Prop) (w w' : World) : Prop := Fr (fun k => D.heap.size ≤ k ∧ ¬ X k) w w'
variable {D w' : World} {X : Nat → Prop} {fb mb : Nat} {h h' : Hx} {q q' : Int → Option Pn} {cnt cnt' : Nat} {T T' : List Ac}
theorem FsD.nw (H : FsD D X fb mb h q cnt T w) (f : Nw w w') : FsD D X fb mb h q cnt T w' := by
  obtain ⟨ot, L, h1, h2, h3, h4⟩ := H
  exact ⟨ot, L, h1.nw f, h2, h3.trans f, fun k hk => Nat.lt_of_lt_of_le (h4 k hk) f.size⟩
/-- Others' blocks were written. -/
theorem FsD.other (H : FsD D X fb mb h q cnt T w) {Y : Nat → Prop} (f : Fr Y w w') (hY : ∀ k, Y k → X k ∧ D.heap.size ≤ k) : FsD D X fb mb h q cnt T w' := by
  obtain ⟨ot, L, h1, h2, h3, h4⟩ := H
  exact ⟨ot, L, h1.kept f (fun k hk hb => (h2 k hb).2 (hY k hk).1), h2, h3.then f (fun i hi => .inr (hY i hi).2), fun k hk => Nat.lt_of_lt_of_le (h4 k hk) f.size⟩
/-- More blocks of others, which came since. -/
theorem FsD.more (H : FsD D X fb mb h q cnt T w) (f : Nw w w') {Y : Nat → Prop} (hY : ∀ k, Y k → X k ∨ w.heap.size ≤ k ∧ k < w'.heap.size) : FsD D Y fb mb h q cnt T w' := by
  obtain ⟨ot, L, h1, h2, h3, h4⟩ := H
  refine ⟨ot, L, h1.nw f, fun k hk => ⟨(h2 k hk).1, fun hy => ?_⟩, h3.trans f, fun k hk => ?_⟩
  · rcases hY k hy with e | e
    · exact (h2 k hk).2 e
    · have := h1.lt k hk; omega
  · rcases hY k hk with e | e
    · exact Nat.lt_of_lt_of_le (h4 k e) f.size
    · exact e.2
theorem FsD.of_new {nodes bytes : Int} (hX : ∀ k, ¬ X k) (h : NewFs nodes bytes w fb mb w') : FsD w X fb mb ⟨nodes, bytes, 0, 2⟩ rootQ 1 [] w' := by
  obtain ⟨L, h1, h2, h3⟩ := h
  exact ⟨none, L, h1, fun k hk => ⟨h3 k hk, hX k⟩, h2, fun k hk => absurd hk (hX k)⟩
/-- What a call that changes something leaves. -/
theorem mut_D {ot : Option Nat} {L : Int → Lay} (h1 : FsH fb mb ot L h q cnt T w) (h2 : ∀ k, Bk fb mb ot L q k → D.heap.size ≤ k ∧ ¬ X k) (h3 : Nw D w) (h4 : ∀ k, X k → k < w.heap.size) (hM : MutO fb mb ot L q h' q' cnt' T' w w') : FsD D X fb mb h' q' cnt' T' w' ∧ FrD D X w w' := by
  obtain ⟨ot', L', m1, m2, m3⟩ := hM
  have hs := h3.size
  refine ⟨⟨ot', L', m1, fun k hk => ?_, h3.then m2 (fun i hi => .inr (h2 i hi).1), fun k hk => Nat.lt_of_lt_of_le (h4 k hk) m2.size⟩, m2.mono (fun i hi => .inl (h2 i hi))⟩
  rcases m3 k hk with e | e
  · exact h2 k e
  · exact ⟨by omega, fun hx => by have := h4 k hx; omega⟩
end Go.Proofs.YtcogkhcfpgelhabGreat

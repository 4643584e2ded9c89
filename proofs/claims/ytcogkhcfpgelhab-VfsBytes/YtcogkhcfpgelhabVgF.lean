import Derived.Test.YtcogkhcfpgelhabVgE
import Derived.Test.YtcogkhcfpgelhabVgM
namespace Go.Proofs.Ytcogkhcfpgelhab
open Go.RowKit
set_option linter.unusedVariables false
set_option maxRecDepth 100000
variable {w w' D u : World} {X : Nat → Prop} {fb mb : Nat}
/-- A file system with one file. -/
def SX (D : World) (fb mb : Nat) (X : Nat → Prop) (f : List By) (N : Nat) (w : World) : Prop := ∃ T : List Ac, T.length ≤ N ∧ f.length ≤ 4194304 ∧ FsD D X fb mb (bH f) (bQ f) 2 T w
theorem SX.nwD {f : List By} {N : Nat} (H : SX D fb mb X f N w) : Nw D w := by
  obtain ⟨T, _, _, _, _, _, _, h3, _⟩ := H
  exact h3
theorem SX.nw {f : List By} {N : Nat} (H : SX D fb mb X f N w) (hN : Nw w w') : SX D fb mb X f N w' := by
  obtain ⟨T, h1, h2, h3⟩ := H
  exact ⟨T, h1, h2, h3.nw hN⟩
theorem wrD_bound (f : List By) (hf : f.length ≤ 4194304) (pl : Int) (b : List By) (hb : ¬ wBad pl b.length) : (wrD f pl.toNat b).length ≤ 4194304 := by
  rw [wrD_len]
  unfold wBad at hb
  split
  · exact hf
  · omega
/-- A copy of bytes. -/
theorem cp_any (u : World) (v : Value) (l : List By) (hO : Old u v l) (hl : l.length ≤ 140737488351232) : ∃ g c W, Hid (∀ ty, (Builtin.append_ #[22, 22] ty #[.slice (some ⟨u.heap.size, 0, none⟩) 0 0, v]).run Try.prog (u.alloc (.cells #[] 5)) = .ok (.slice (some ⟨g, 0, none⟩) l.length c) W) ∧ Ow g (.slice (some ⟨g, 0, none⟩) l.length c) l W ∧ Nw u W ∧ u.heap.size ≤ g := by
  have hN : Nw u (u.alloc (.cells #[] 5)) := (Fr.refl _ _).alloc _
  obtain ⟨v', g', W, k1, k2, k3, k4⟩ := app_any (u.alloc (.cells #[] 5)) u.heap.size _ [] (Ow.empty u) v l ((hO.nw hN).mono (fun _ h => h.elim)) (by simp; omega)
  rw [List.nil_append] at k2
  obtain ⟨xs, e1, _⟩ := id k2
  subst e1
  have hsz : (u.alloc (.cells #[] 5)).heap.size = u.heap.size + 1 := by simp
  refine ⟨g', xs.length, W, k1, k2, Fr.then hN k3 (fun i hi => .inr (by omega)), ?_⟩
  rcases k4 with e | e <;> omega
/-- A copy of bytes, written. -/
theorem cw_any {f : List By} {N : Nat} (H : SX D fb mb X f N u) (hN : N ≤ 100) (hX : ∀ k, X k → D.heap.size ≤ k) (pl : Int) (hp : I64 pl) (v : Value) (b : List By) (hO : Old u v b) (hl : b.length ≤ 140737488351232) :
    ∃ g c W, Hid (∀ ty, (Builtin.append_ #[22, 22] ty #[.slice (some ⟨u.heap.size, 0, none⟩) 0 0, v]).run Try.prog (u.alloc (.cells #[] 5)) = .ok (.slice (some ⟨g, 0, none⟩) b.length c) W) ∧ Hid (Calls Try.prog 7 #[.pointer (some ⟨fb, 0, none⟩), .int .i64 2, .int .i64 pl, .slice (some ⟨g, 0, none⟩) b.length c] W fun e w' => (e = .returned (.int .i64 1) ∧ Hid (wBad pl b.length ∧ SX D fb mb X f N w' ∧ FrD D X u w')) ∨ (e = .returned (.int .i64 0) ∧ Hid (¬ wBad pl b.length ∧ SX D fb mb X (wrD f pl.toNat b) (N + 1) w' ∧ FrD D X u w'))) := by
  obtain ⟨g, c, W, k1, k2, k3, k4⟩ := cp_any u v b hO hl
  have hgl := k2.lt
  have hD : D.heap.size ≤ u.heap.size := H.nwD.size
  refine ⟨g, c, W, k1, ?_⟩
  obtain ⟨T, h1, h2, h3⟩ := H
  have H2 : FsD D (fun k => X k ∨ k = g) fb mb (bH f) (bQ f) 2 T W := h3.grow (Y := fun _ => False) k3 (fun k hk => hk.elim) (fun k hk => hk.imp id (fun e => ⟨by omega, by omega⟩))
  refine Calls.mono (bwrite H2 h2 (by omega) pl hp (some ⟨g, 0, none⟩) c b (.inr ⟨g, fun e => ?_, k2.slb⟩)) ?_
  · rcases e with ⟨_, e⟩ | e
    · exact e (.inr rfl)
    · omega
  · rintro e w' (⟨hb, rfl, hF, hNw⟩ | ⟨hb, rfl, ⟨T', hT', hF⟩, hFr⟩)
    · exact .inl ⟨rfl, hb, ⟨T, h1, h2, hF.lessX (fun k hk => .inl hk)⟩, (k3.trans hNw).any⟩
    · refine .inr ⟨rfl, hb, ⟨T', by omega, wrD_bound f h2 pl b hb, hF.lessX (fun k hk => .inl hk)⟩, ?_⟩
      exact (k3.any (X := fun k => D.heap.size ≤ k ∧ ¬ X k)).trans (hFr.mono (fun i hi => .inl ⟨hi.1, fun hx => hi.2 (.inl hx)⟩))
theorem wrD_new (b : List By) : wrD [] 0 b = b := by
  unfold wrD
  by_cases hb : b = []
  · rw [if_pos hb, hb]
  · rw [if_neg hb]
    unfold ovl rszD
    simp
theorem bc_new (w : World) : Calls Try.prog 5 #[.int .i64 2, .int .i64 4194304] w fun e w' => ∃ fb mb, e = .returned (.tuple #[.pointer (some ⟨fb, 0, none⟩), .int .i64 0]) ∧ Hid (FsD w Nox fb mb ⟨2, 4194304, 0, 2⟩ rootQ 1 [] w') := by
  refine Calls.mono (new_any 2 4194304 w) ?_
  rintro e w' (⟨hn, _⟩ | ⟨_, fb, mb, rfl, hF⟩)
  · exact absurd hn (by decide)
  · exact ⟨fb, mb, rfl, FsD.of_new (fun _ h => h) hF⟩
theorem b1a : addE ⟨2, 4194304, 0, 2⟩ rootQ 1 1 [102] 2 mt0 [] = 0 := by decide
theorem b1c : ∃ p, rootQ 1 = some p ∧ p.ents [102] = none ∧ p.ne = 0 := ⟨_, rfl, rfl, rfl⟩
theorem bc_create (H : FsD D X fb mb ⟨2, 4194304, 0, 2⟩ rootQ 1 [] w) : Calls Try.prog 6 #[.pointer (some ⟨fb, 0, none⟩), .int .i64 1, .string ⟨#[102]⟩, .agg #[.int .u32 0, .int .u32 0, .int .u32 0, .int .i64 0, .int .i32 0]] w fun e w' => e = .returned (.tuple #[.int .i64 2, .int .i64 0]) ∧ Hid (SX D fb mb X [] 1 w') := by
  refine Calls.mono (create_ok H l1b ⟨by show (0 : Int) ≤ 2; omega, by show (2 : Int) ≤ _; omega⟩ (by simp) (by omega) 1 ⟨by omega, by omega⟩ [102] (by simp) (by obtain ⟨p, a, b, c⟩ := b1c; exact ⟨p, a, b, by omega⟩) mt0 b1a) ?_
  rintro e w' ⟨rfl, h2, _⟩
  refine ⟨rfl, [] ++ [⟨2, 1, [102], 2, 0, [], 0, 0⟩], by simp, by simp, ?_⟩
  have e1 : bQ [] = addQ rootQ 1 [102] 2 (newP 2 mt0 []) := bQ_nil.symm
  rw [e1]
  exact h2
/-- The file system, and the bytes that the law keeps beside it. -/
def SW (D : World) (fb mb : Nat) (f l : List By) (g c N : Nat) (w : World) : Prop := SX D fb mb (fun k => k = g) f N w ∧ Ow g (.slice (some ⟨g, 0, none⟩) l.length c) l w ∧ D.heap.size ≤ g
theorem SW.nw {f l : List By} {g c N : Nat} (H : SW D fb mb f l g c N w) (hN : Nw w w') : SW D fb mb f l g c N w' := ⟨H.1.nw hN, H.2.1.nw hN, H.2.2⟩
theorem SW.fr {f l f' : List By} {g c N N' : Nat} (H : SW D fb mb f l g c N w) (h1 : SX D fb mb (fun k => k = g) f' N' w') (f2 : FrD D (fun k => k = g) w w') : SW D fb mb f' l g c N' w' := ⟨h1, H.2.1.kept f2 (fun e => e.2 rfl), H.2.2⟩
theorem SW.cap {f l : List By} {g c N : Nat} (H : SW D fb mb f l g c N w) : l.length ≤ c ∧ c < 9223372036854775808 := by
  obtain ⟨xs, e, _, h3, h4, _⟩ := H.2.1
  injection e with _ _ e
  rw [e]; exact ⟨h3, h4⟩
theorem SW.push {f l : List By} {g c N : Nat} (H : SW D fb mb f l g c N w) (hl : l.length ≤ 100000000) (x : By) :
    ∃ g' c' W, Hid (∀ ty, (Builtin.append_ #[22, 22] ty #[.slice (some ⟨g, 0, none⟩) l.length c, .slice (some ⟨w.heap.size, 0, none⟩) 1 1]).run Try.prog (w.alloc (.cells #[bv x] 5)) = .ok (.slice (some ⟨g', 0, none⟩) (l.length + 1) c') W) ∧ SW D fb mb f (l ++ [x]) g' c' N W := by
  obtain ⟨⟨T, h1, h2, h3⟩, hO, hD⟩ := H
  obtain ⟨g', c', W, k1, k2, k3, k4⟩ := was_push h3 hD hO hl x
  refine ⟨g', c', W, k1, ⟨T, h1, h2, k3⟩, ?_, k4⟩
  rw [List.length_append, List.length_singleton]; exact k2
theorem SW.put {f l : List By} {g c N : Nat} (H : SW D fb mb f l g c N w) (j : Nat) (hj : j < l.length) (x : By) : SW D fb mb f (l.set j x) g c N (w.setCell ⟨g, j, none⟩ (.int .u8 x.toNat)) ∧ (∃ y, w.cell? ⟨g, j, none⟩ = some y) ∧ w.frozen? ⟨g, j, none⟩ = false := by
  obtain ⟨⟨T, h1, h2, h3⟩, hO, hD⟩ := H
  have hat := hO.at j hj
  refine ⟨⟨⟨T, h1, h2, h3.other ((Fr.refl (fun k => k = g) w).setCell ⟨g, j, none⟩ _ (.inl rfl)) (fun k hk => ⟨hk, by omega⟩)⟩, ?_, hD⟩, ⟨_, hat.1⟩, hat.2⟩
  rw [List.length_set]
  exact hO.put j hj x _ rfl
theorem ovl_set (R : List By) (A : Nat) (b : List By) (I : Nat) (hI : I < b.length) (hA : A + b.length ≤ R.length) : (ovl R A (b.take I)).set (A + I) (b[I]'hI) = ovl R A (b.take (I + 1)) := by
  unfold ovl
  have e1 : (b.take I).length = I := by rw [List.length_take]; omega
  have e2 : (b.take (I + 1)).length = I + 1 := by rw [List.length_take]; omega
  have e3 : (R.take A).length = A := by rw [List.length_take]; omega
  rw [e1, e2, List.set_append_right _ _ (by rw [List.length_append, e3, e1]; omega)]
  rw [List.length_append, e3, e1, Nat.sub_self]
  have e4 : R.drop (A + I) = R[A + I]'(by omega) :: R.drop (A + I + 1) := List.drop_eq_getElem_cons (by omega)
  have e5 : b.take (I + 1) = b.take I ++ [b[I]] := by rw [List.take_add_one, List.getElem?_eq_getElem hI]; rfl
  rw [e4, List.set_cons_zero, e5]
  simp only [List.append_assoc, List.cons_append, List.nil_append, Nat.add_assoc]
theorem rsz_app (d : List By) (j : Nat) : d ++ List.replicate j 0#8 = rszD d (d.length + j) := by
  unfold rszD
  rw [if_pos (by omega), Nat.add_sub_cancel_left]
theorem brd (d : List By) (hd : d.length ≤ 4194304) : rdD (bP d).data (0 : Int).toNat (4194304 : Int).toNat = d := by
  unfold rdD bP
  show (d.drop 0).take 4194304 = d
  rw [List.drop_zero, List.take_of_length_le hd]
theorem brdE (d : List By) : rdE (bQ d) 2 0 4194304 = 0 := by
  unfold rdE
  rw [bQ_two]
  simp [bP]
end Go.Proofs.Ytcogkhcfpgelhab

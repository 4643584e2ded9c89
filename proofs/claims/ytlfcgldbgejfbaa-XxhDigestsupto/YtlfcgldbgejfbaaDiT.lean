import Derived.Test.YtlfcgldbgejfbaaDiB
namespace Go.Proofs.Ytlfcgldbgejfbaa
open Go.RowKit
set_option linter.unusedVariables false
set_option maxHeartbeats 4000000 in
set_option maxRecDepth 100000 in
theorem tells0 (w : World) (sb : Nat) (s o : BitVec 64) (D : Nat → Nat) (T : Nat → Value) (L : Nat → List By) (V : World) (h : DInv w sb s o D T L V) (hl : (L 0).length ≤ 140737488355328) :
    Calls Try.prog 16 #[.pointer (some ⟨sb, 0, none⟩), .int .i64 0] V fun e w' => e = .returned (.bool true) ∧ Nw V w' := by
  have k : Took32 (D 0) (s.setWidth 32) (L 0) V := h.tk 0 (by decide)
  have ho := (h.own 0 (by decide)).old
  obtain ⟨ta, tc, ht⟩ := (h.own 0 (by decide)).slice
  have KS : Hid (∀ U, Nw V U → U.cell? ⟨sb, 0, none⟩ = some (.pointer (some ⟨D 0, 0, none⟩)) ∧ U.cell? ⟨sb, 8, none⟩ = some (.int .u64 s.toNat)) := fun U hU => ⟨(h.nws hU).cell 0 _ rfl, (h.nws hU).cell 8 _ rfl⟩
  have c4 : V.cell? ⟨sb, 4, none⟩ = some (T 0) := h.cell 4 _ rfl
  have HS : Hid (∀ U, Nw V U → Calls Try.prog 22 #[.pointer (some ⟨D 0, 0, none⟩)] U fun e w' => e = .returned (.int .u32 (s32 (s.setWidth 32) (L 0)).toNat) ∧ Nw V w') := fun U hU => cbase hU (sum32_any (D 0) _ (L 0) U (k.nw hU) (by omega))
  have HR : Hid (∀ U, Nw V U → Calls Try.prog 11 #[.int .u32 (IntKind.u32.wrap (s.toNat : Int)), T 0] U fun e w' => e = .returned (.int .u32 (s32 (s.setWidth 32) (L 0)).toNat) ∧ Nw V w') := by
    intro U hU
    rw [low_wrap]
    exact cbase hU (rsum32_any (s.setWidth 32) (T 0) (L 0) U (Sl.later ho hU))
  have HN : Hid (∀ U, Nw V U → Calls Try.prog 24 #[.pointer (some ⟨D 0, 0, none⟩)] U fun e w' => e = .returned (.int .u64 (L 0).length) ∧ Nw V w') := by
    intro U hU
    obtain ⟨rest, h1, h2, h3⟩ := k.nw hU
    rw [Nat.mod_eq_of_lt (by omega)] at h2
    exact cbase hU (len32_any _ _ _ _ U h2)
  rw [ht] at HR c4
  have c0 := (KS.out V (Fr.refl _ _)).1
  have c8 := (KS.out V (Fr.refl _ _)).2
  clear h k ho ht
  generalize s32 (s.setWidth 32) (L 0) = A at *
  generalize (L 0).length = n at *
  generalize D 0 = d at *
  go_enter Try.func16, Try.ntmps16
  go_wp2_with fail
  go_region_held3 (fun w' => w'.cell? ⟨sb, 0, none⟩ = some (.pointer (some ⟨d, 0, none⟩)) ∧ w'.cell? ⟨sb, 8, none⟩ = some (.int .u64 s.toNat))
    ((refine KS.out _ ?_; (first | assumption | exact Fr.refl _ _ | exact (Fr.refl _ _).drew | exact (Fr.refl _ _).drewN _)))
    (first
      | (go_at_call 22; with_reducible refine (HS.out _ ?_).mono ?_; (first | assumption | exact Fr.refl _ _ | exact (Fr.refl _ _).drew | exact (Fr.refl _ _).drewN _); rintro e w1 ⟨rfl, hN1⟩; obtain ⟨q1, q2⟩ := KS.out _ hN1)
      | (go_at_call 11; with_reducible refine (HR.out _ ?_).mono ?_; (first | assumption | exact Fr.refl _ _ | exact (Fr.refl _ _).drew | exact (Fr.refl _ _).drewN _); rintro e w2 ⟨rfl, hN2⟩; obtain ⟨q3, q4⟩ := KS.out _ hN2)
      | (go_at_call 24; with_reducible refine (HN.out _ ?_).mono ?_; (first | assumption | exact Fr.refl _ _ | exact (Fr.refl _ _).drew | exact (Fr.refl _ _).drewN _); rintro e w3 ⟨rfl, hN3⟩))
  all_goals go_wp2_with fail
  all_goals go_ret
  all_goals exact ⟨by simp; try omega, by assumption⟩
set_option maxHeartbeats 4000000 in
set_option maxRecDepth 100000 in
theorem tells1 (w : World) (sb : Nat) (s o : BitVec 64) (D : Nat → Nat) (T : Nat → Value) (L : Nat → List By) (V : World) (h : DInv w sb s o D T L V) (hl : (L 1).length ≤ 140737488355328) :
    Calls Try.prog 16 #[.pointer (some ⟨sb, 0, none⟩), .int .i64 1] V fun e w' => e = .returned (.bool true) ∧ Nw V w' := by
  have k : Took32 (D 1) (o.setWidth 32) (L 1) V := h.tk 1 (by decide)
  have ho := (h.own 1 (by decide)).old
  obtain ⟨ta, tc, ht⟩ := (h.own 1 (by decide)).slice
  have KS : Hid (∀ U, Nw V U → U.cell? ⟨sb, 1, none⟩ = some (.pointer (some ⟨D 1, 0, none⟩)) ∧ U.cell? ⟨sb, 9, none⟩ = some (.int .u64 o.toNat)) := fun U hU => ⟨(h.nws hU).cell 1 _ rfl, (h.nws hU).cell 9 _ rfl⟩
  have c4 : V.cell? ⟨sb, 5, none⟩ = some (T 1) := h.cell 5 _ rfl
  have HS : Hid (∀ U, Nw V U → Calls Try.prog 22 #[.pointer (some ⟨D 1, 0, none⟩)] U fun e w' => e = .returned (.int .u32 (s32 (o.setWidth 32) (L 1)).toNat) ∧ Nw V w') := fun U hU => cbase hU (sum32_any (D 1) _ (L 1) U (k.nw hU) (by omega))
  have HR : Hid (∀ U, Nw V U → Calls Try.prog 11 #[.int .u32 (IntKind.u32.wrap (o.toNat : Int)), T 1] U fun e w' => e = .returned (.int .u32 (s32 (o.setWidth 32) (L 1)).toNat) ∧ Nw V w') := by
    intro U hU
    rw [low_wrap]
    exact cbase hU (rsum32_any (o.setWidth 32) (T 1) (L 1) U (Sl.later ho hU))
  have HN : Hid (∀ U, Nw V U → Calls Try.prog 24 #[.pointer (some ⟨D 1, 0, none⟩)] U fun e w' => e = .returned (.int .u64 (L 1).length) ∧ Nw V w') := by
    intro U hU
    obtain ⟨rest, h1, h2, h3⟩ := k.nw hU
    rw [Nat.mod_eq_of_lt (by omega)] at h2
    exact cbase hU (len32_any _ _ _ _ U h2)
  rw [ht] at HR c4
  have c0 := (KS.out V (Fr.refl _ _)).1
  have c8 := (KS.out V (Fr.refl _ _)).2
  clear h k ho ht
  generalize s32 (o.setWidth 32) (L 1) = A at *
  generalize (L 1).length = n at *
  generalize D 1 = d at *
  go_enter Try.func16, Try.ntmps16
  go_wp2_with fail
  go_region_held3 (fun w' => w'.cell? ⟨sb, 1, none⟩ = some (.pointer (some ⟨d, 0, none⟩)) ∧ w'.cell? ⟨sb, 9, none⟩ = some (.int .u64 o.toNat))
    ((refine KS.out _ ?_; (first | assumption | exact Fr.refl _ _ | exact (Fr.refl _ _).drew | exact (Fr.refl _ _).drewN _)))
    (first
      | (go_at_call 22; with_reducible refine (HS.out _ ?_).mono ?_; (first | assumption | exact Fr.refl _ _ | exact (Fr.refl _ _).drew | exact (Fr.refl _ _).drewN _); rintro e w1 ⟨rfl, hN1⟩; obtain ⟨q1, q2⟩ := KS.out _ hN1)
      | (go_at_call 11; with_reducible refine (HR.out _ ?_).mono ?_; (first | assumption | exact Fr.refl _ _ | exact (Fr.refl _ _).drew | exact (Fr.refl _ _).drewN _); rintro e w2 ⟨rfl, hN2⟩; obtain ⟨q3, q4⟩ := KS.out _ hN2)
      | (go_at_call 24; with_reducible refine (HN.out _ ?_).mono ?_; (first | assumption | exact Fr.refl _ _ | exact (Fr.refl _ _).drew | exact (Fr.refl _ _).drewN _); rintro e w3 ⟨rfl, hN3⟩))
  all_goals go_wp2_with fail
  all_goals go_ret
  all_goals exact ⟨by simp; try omega, by assumption⟩
set_option maxHeartbeats 4000000 in
set_option maxRecDepth 100000 in
theorem tells2 (w : World) (sb : Nat) (s o : BitVec 64) (D : Nat → Nat) (T : Nat → Value) (L : Nat → List By) (V : World) (h : DInv w sb s o D T L V) (hl : (L 2).length ≤ 140737488355328) :
    Calls Try.prog 16 #[.pointer (some ⟨sb, 0, none⟩), .int .i64 2] V fun e w' => e = .returned (.bool true) ∧ Nw V w' := by
  have k : Took64 (D 2) s (L 2) V := h.tk 2 (by decide)
  have ho := (h.own 2 (by decide)).old
  obtain ⟨ta, tc, ht⟩ := (h.own 2 (by decide)).slice
  have KS : Hid (∀ U, Nw V U → U.cell? ⟨sb, 2, none⟩ = some (.pointer (some ⟨D 2, 0, none⟩)) ∧ U.cell? ⟨sb, 8, none⟩ = some (.int .u64 s.toNat)) := fun U hU => ⟨(h.nws hU).cell 2 _ rfl, (h.nws hU).cell 8 _ rfl⟩
  have c4 : V.cell? ⟨sb, 6, none⟩ = some (T 2) := h.cell 6 _ rfl
  have HS : Hid (∀ U, Nw V U → Calls Try.prog 23 #[.pointer (some ⟨D 2, 0, none⟩)] U fun e w' => e = .returned (.int .u64 (s64 s (L 2)).toNat) ∧ Nw V w') := fun U hU => cbase hU (sum64_any (D 2) _ (L 2) U (k.nw hU) (by omega))
  have HR : Hid (∀ U, Nw V U → Calls Try.prog 12 #[.int .u64 (s.toNat : Int), T 2] U fun e w' => e = .returned (.int .u64 (s64 s (L 2)).toNat) ∧ Nw V w') := by
    intro U hU
    skip
    exact cbase hU (rsum64_any s (T 2) (L 2) U (Sl.later ho hU))
  have HN : Hid (∀ U, Nw V U → Calls Try.prog 25 #[.pointer (some ⟨D 2, 0, none⟩)] U fun e w' => e = .returned (.int .u64 (L 2).length) ∧ Nw V w') := by
    intro U hU
    obtain ⟨rest, h1, h2, h3⟩ := k.nw hU
    rw [Nat.mod_eq_of_lt (by omega)] at h2
    exact cbase hU (len64_any _ _ _ _ U h2)
  rw [ht] at HR c4
  have c0 := (KS.out V (Fr.refl _ _)).1
  have c8 := (KS.out V (Fr.refl _ _)).2
  clear h k ho ht
  generalize s64 s (L 2) = A at *
  generalize (L 2).length = n at *
  generalize D 2 = d at *
  go_enter Try.func16, Try.ntmps16
  go_wp2_with fail
  go_region_held3 (fun w' => w'.cell? ⟨sb, 2, none⟩ = some (.pointer (some ⟨d, 0, none⟩)) ∧ w'.cell? ⟨sb, 8, none⟩ = some (.int .u64 s.toNat))
    ((refine KS.out _ ?_; (first | assumption | exact Fr.refl _ _ | exact (Fr.refl _ _).drew | exact (Fr.refl _ _).drewN _)))
    (first
      | (go_at_call 23; with_reducible refine (HS.out _ ?_).mono ?_; (first | assumption | exact Fr.refl _ _ | exact (Fr.refl _ _).drew | exact (Fr.refl _ _).drewN _); rintro e w1 ⟨rfl, hN1⟩; obtain ⟨q1, q2⟩ := KS.out _ hN1)
      | (go_at_call 12; with_reducible refine (HR.out _ ?_).mono ?_; (first | assumption | exact Fr.refl _ _ | exact (Fr.refl _ _).drew | exact (Fr.refl _ _).drewN _); rintro e w2 ⟨rfl, hN2⟩; obtain ⟨q3, q4⟩ := KS.out _ hN2)
      | (go_at_call 25; with_reducible refine (HN.out _ ?_).mono ?_; (first | assumption | exact Fr.refl _ _ | exact (Fr.refl _ _).drew | exact (Fr.refl _ _).drewN _); rintro e w3 ⟨rfl, hN3⟩))
  all_goals go_wp2_with fail
  all_goals go_ret
  all_goals exact ⟨by simp; try omega, by assumption⟩
set_option maxHeartbeats 4000000 in
set_option maxRecDepth 100000 in
theorem tells3 (w : World) (sb : Nat) (s o : BitVec 64) (D : Nat → Nat) (T : Nat → Value) (L : Nat → List By) (V : World) (h : DInv w sb s o D T L V) (hl : (L 3).length ≤ 140737488355328) :
    Calls Try.prog 16 #[.pointer (some ⟨sb, 0, none⟩), .int .i64 3] V fun e w' => e = .returned (.bool true) ∧ Nw V w' := by
  have k : Took64 (D 3) o (L 3) V := h.tk 3 (by decide)
  have ho := (h.own 3 (by decide)).old
  obtain ⟨ta, tc, ht⟩ := (h.own 3 (by decide)).slice
  have KS : Hid (∀ U, Nw V U → U.cell? ⟨sb, 3, none⟩ = some (.pointer (some ⟨D 3, 0, none⟩)) ∧ U.cell? ⟨sb, 9, none⟩ = some (.int .u64 o.toNat)) := fun U hU => ⟨(h.nws hU).cell 3 _ rfl, (h.nws hU).cell 9 _ rfl⟩
  have c4 : V.cell? ⟨sb, 7, none⟩ = some (T 3) := h.cell 7 _ rfl
  have HS : Hid (∀ U, Nw V U → Calls Try.prog 23 #[.pointer (some ⟨D 3, 0, none⟩)] U fun e w' => e = .returned (.int .u64 (s64 o (L 3)).toNat) ∧ Nw V w') := fun U hU => cbase hU (sum64_any (D 3) _ (L 3) U (k.nw hU) (by omega))
  have HR : Hid (∀ U, Nw V U → Calls Try.prog 12 #[.int .u64 (o.toNat : Int), T 3] U fun e w' => e = .returned (.int .u64 (s64 o (L 3)).toNat) ∧ Nw V w') := by
    intro U hU
    skip
    exact cbase hU (rsum64_any o (T 3) (L 3) U (Sl.later ho hU))
  have HN : Hid (∀ U, Nw V U → Calls Try.prog 25 #[.pointer (some ⟨D 3, 0, none⟩)] U fun e w' => e = .returned (.int .u64 (L 3).length) ∧ Nw V w') := by
    intro U hU
    obtain ⟨rest, h1, h2, h3⟩ := k.nw hU
    rw [Nat.mod_eq_of_lt (by omega)] at h2
    exact cbase hU (len64_any _ _ _ _ U h2)
  rw [ht] at HR c4
  have c0 := (KS.out V (Fr.refl _ _)).1
  have c8 := (KS.out V (Fr.refl _ _)).2
  clear h k ho ht
  generalize s64 o (L 3) = A at *
  generalize (L 3).length = n at *
  generalize D 3 = d at *
  go_enter Try.func16, Try.ntmps16
  go_wp2_with fail
  go_region_held3 (fun w' => w'.cell? ⟨sb, 3, none⟩ = some (.pointer (some ⟨d, 0, none⟩)) ∧ w'.cell? ⟨sb, 9, none⟩ = some (.int .u64 o.toNat))
    ((refine KS.out _ ?_; (first | assumption | exact Fr.refl _ _ | exact (Fr.refl _ _).drew | exact (Fr.refl _ _).drewN _)))
    (first
      | (go_at_call 23; with_reducible refine (HS.out _ ?_).mono ?_; (first | assumption | exact Fr.refl _ _ | exact (Fr.refl _ _).drew | exact (Fr.refl _ _).drewN _); rintro e w1 ⟨rfl, hN1⟩; obtain ⟨q1, q2⟩ := KS.out _ hN1)
      | (go_at_call 12; with_reducible refine (HR.out _ ?_).mono ?_; (first | assumption | exact Fr.refl _ _ | exact (Fr.refl _ _).drew | exact (Fr.refl _ _).drewN _); rintro e w2 ⟨rfl, hN2⟩; obtain ⟨q3, q4⟩ := KS.out _ hN2)
      | (go_at_call 25; with_reducible refine (HN.out _ ?_).mono ?_; (first | assumption | exact Fr.refl _ _ | exact (Fr.refl _ _).drew | exact (Fr.refl _ _).drewN _); rintro e w3 ⟨rfl, hN3⟩))
  all_goals go_wp2_with fail
  all_goals go_ret
  all_goals exact ⟨by simp; try omega, by assumption⟩
end Go.Proofs.Ytlfcgldbgejfbaa

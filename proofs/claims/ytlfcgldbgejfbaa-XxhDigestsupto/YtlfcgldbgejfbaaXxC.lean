import Derived.Test.YtlfcgldbgejfbaaXxB
namespace Go.Proofs.Ytlfcgldbgejfbaa
open Go.RowKit
set_option linter.unusedVariables false

/-! ### Turning -/
theorem and_low (n k : Nat) (hk : k ≤ 64) (hn : n < 2 ^ k) : bits .and .u64 (n : Int) ((2 ^ k - 1 : Nat) : Int) = n := by
  have h64 : (2 : Nat) ^ k ≤ 2 ^ 64 := Nat.pow_le_pow_right (by decide) hk
  rw [show (2 : Nat) ^ 64 = 18446744073709551616 from rfl] at h64
  rw [u64_and_nat n _ (by omega) (by omega), Nat.and_two_pow_sub_one_eq_mod, Nat.mod_eq_of_lt hn]
theorem i_rot32 (x : BitVec 32) (n : Nat) (hn' : n < 32) : bits .or .u32 ((x.toNat : Int) * 2 ^ n % 4294967296) ((x.toNat : Int) / 2 ^ (32 - n)) = (x.rotateLeft n).toNat := by
  have := x.isLt
  rw [rotl x n hn']
  have e1 : ((x.toNat : Int) * 2 ^ n % 4294967296) = ((x.toNat * 2 ^ n % 4294967296 : Nat) : Int) := by simp
  have e2 : ((x.toNat : Int) / 2 ^ (32 - n)) = ((x.toNat / 2 ^ (32 - n) : Nat) : Int) := by simp
  rw [e1, e2, u32_or_nat _ _ (Nat.mod_lt _ (by decide)) (Nat.lt_of_le_of_lt (Nat.div_le_self _ _) this)]
theorem i_rot64 (x : BitVec 64) (n : Nat) (hn' : n < 64) : bits .or .u64 (IntKind.u64.wrap ((x.toNat : Int) * 2 ^ n)) ((x.toNat : Int) / 2 ^ (64 - n)) = (x.rotateLeft n).toNat := by
  have := x.isLt
  rw [IntKind.wrap_u64, rotl x n hn']
  have e1 : ((x.toNat : Int) * 2 ^ n % 18446744073709551616) = ((x.toNat * 2 ^ n % 18446744073709551616 : Nat) : Int) := by simp
  have e2 : ((x.toNat : Int) / 2 ^ (64 - n)) = ((x.toNat / 2 ^ (64 - n) : Nat) : Int) := by simp
  rw [e1, e2, u64_or_nat _ _ (Nat.mod_lt _ (by decide)) (Nat.lt_of_le_of_lt (Nat.div_le_self _ _) this)]
theorem i_rrot32 (x : BitVec 32) (n : Nat) (hn' : n < 32) : ((x.toNat : Int) * 2 ^ n % 4294967296 + (x.toNat : Int) / 2 ^ (32 - n)) % 4294967296 = (x.rotateLeft n).toNat := by
  have hl := (x.rotateLeft n).isLt
  have := rotl_add x n hn'
  rw [show (2 : Nat) ^ 32 = 4294967296 from rfl] at this hl
  have e1 : ((x.toNat : Int) * 2 ^ n) = ((x.toNat * 2 ^ n : Nat) : Int) := by simp
  have e2 : ((x.toNat : Int) / 2 ^ (32 - n)) = ((x.toNat / 2 ^ (32 - n) : Nat) : Int) := by simp
  rw [e1, e2]
  generalize x.toNat * 2 ^ n = A at *
  generalize x.toNat / 2 ^ (32 - n) = B at *
  omega
theorem i_rrot64 (x : BitVec 64) (n : Nat) (hn' : n < 64) : ((x.toNat : Int) * 2 ^ n % 18446744073709551616 + (x.toNat : Int) / 2 ^ (64 - n)) % 18446744073709551616 = (x.rotateLeft n).toNat := by
  have hl := (x.rotateLeft n).isLt
  have := rotl_add x n hn'
  rw [show (2 : Nat) ^ 64 = 18446744073709551616 from rfl] at this hl
  have e1 : ((x.toNat : Int) * 2 ^ n) = ((x.toNat * 2 ^ n : Nat) : Int) := by simp
  have e2 : ((x.toNat : Int) / 2 ^ (64 - n)) = ((x.toNat / 2 ^ (64 - n) : Nat) : Int) := by simp
  rw [e1, e2]
  generalize x.toNat * 2 ^ n = A at *
  generalize x.toNat / 2 ^ (64 - n) = B at *
  omega
theorem rot32_at (x : BitVec 32) (n : Nat) (z : Int) (hz : z = x.toNat) (hn : 0 < n) (hn' : n < 32) (w : World) : Calls Try.prog 37 #[.int .u32 z, .int .i64 n] w fun e w' => e = .returned (.int .u32 (x.rotateLeft n).toNat) ∧ Nw w w' := by
  subst hz
  have hb : bits .and .u64 (n : Int) 31 = n := and_low n 5 (by decide) hn'
  go_enter Try.func37, Try.ntmps37
  go_wp2
  go_ret
  exact ⟨congrArg (fun z => Ending.returned (.int .u32 z)) (i_rot32 x n hn'), Fr.refl _ _⟩
theorem rot64_at (x : BitVec 64) (n : Nat) (z : Int) (hz : z = x.toNat) (hn : 0 < n) (hn' : n < 64) (w : World) : Calls Try.prog 49 #[.int .u64 z, .int .i64 n] w fun e w' => e = .returned (.int .u64 (x.rotateLeft n).toNat) ∧ Nw w w' := by
  subst hz
  have hb : bits .and .u64 (n : Int) 63 = n := and_low n 6 (by decide) hn'
  go_enter Try.func49, Try.ntmps49
  go_wp2
  go_ret
  exact ⟨congrArg (fun z => Ending.returned (.int .u64 z)) (i_rot64 x n hn'), Fr.refl _ _⟩
theorem rrot32_at (x : BitVec 32) (n : Nat) (z : Int) (hz : z = x.toNat) (hn : 0 < n) (hn' : n < 32) (w : World) : Calls Try.prog 26 #[.int .u32 z, .int .i64 n] w fun e w' => e = .returned (.int .u32 (x.rotateLeft n).toNat) ∧ Nw w w' := by
  subst hz
  go_enter Try.func26, Try.ntmps26
  go_wp2_with fail
  go_quiet (fail)
  go_wp2
  go_ret
  exact ⟨congrArg (fun z => Ending.returned (.int .u32 z)) (i_rrot32 x n hn'), (Fr.refl _ _).drewN _⟩
theorem rrot64_at (x : BitVec 64) (n : Nat) (z : Int) (hz : z = x.toNat) (hn : 0 < n) (hn' : n < 64) (w : World) : Calls Try.prog 30 #[.int .u64 z, .int .i64 n] w fun e w' => e = .returned (.int .u64 (x.rotateLeft n).toNat) ∧ Nw w w' := by
  subst hz
  go_enter Try.func30, Try.ntmps30
  go_wp2_with fail
  go_quiet (fail)
  go_wp2
  go_ret
  exact ⟨congrArg (fun z => Ending.returned (.int .u64 z)) (i_rrot64 x n hn'), (Fr.refl _ _).drewN _⟩

/-! ### Words -/
theorem i_or32 (a b c d : By) : bits .or .u32 (bits .or .u32 (bits .or .u32 (a.toNat : Int) ((b.toNat : Int) * 256)) ((c.toNat : Int) * 65536)) ((d.toNat : Int) * 16777216) = ((a.toNat + b.toNat * 256 + c.toNat * 65536 + d.toNat * 16777216 : Nat) : Int) := by
  have ha := a.isLt; have hb := b.isLt; have hc := c.isLt; have hd := d.isLt
  have e1 : ((b.toNat : Int) * 256) = ((b.toNat * 256 : Nat) : Int) := by simp
  have e2 : ((c.toNat : Int) * 65536) = ((c.toNat * 65536 : Nat) : Int) := by simp
  have e3 : ((d.toNat : Int) * 16777216) = ((d.toNat * 16777216 : Nat) : Int) := by simp
  rw [e1, e2, e3, u32_or_nat _ _ (by omega) (by omega), Nat.or_comm, nat_join 8 _ _ (by omega) (by omega), u32_or_nat _ _ (by omega) (by omega), Nat.or_comm, nat_join 16 _ _ (by omega) (by omega), u32_or_nat _ _ (by omega) (by omega), Nat.or_comm, nat_join 24 _ _ (by omega) (by omega)]
  congr 1; omega
theorem i_or64 (a b : BitVec 32) : bits .or .u64 (a.toNat : Int) ((b.toNat : Int) * 4294967296) = ((a.toNat + b.toNat * 4294967296 : Nat) : Int) := by
  have ha := a.isLt; have hb := b.isLt
  have e1 : ((b.toNat : Int) * 4294967296) = ((b.toNat * 4294967296 : Nat) : Int) := by simp
  rw [e1, u64_or_nat _ _ (by omega) (by omega), Nat.or_comm, nat_join 32 _ _ (by omega) (by omega)]
  congr 1; omega
theorem wrap_b32 (A : BitVec 32) : IntKind.u64.wrap (A.toNat : Int) = A.toNat := by
  have := A.isLt
  rw [IntKind.wrap_u64]; omega
theorem wrap_b32s (A : BitVec 32) : IntKind.u64.wrap ((A.toNat : Int) * 4294967296) = (A.toNat : Int) * 4294967296 := by
  have := A.isLt
  rw [IntKind.wrap_u64]; omega
theorem low32_any (g : Nat) (v : Value) (l : List By) (w : World) (h : SlB g v l w) (hl : 4 ≤ l.length) : Calls Try.prog 38 #[v] w fun e w' => e = .returned (.int .u32 (lo32 l).toNat) ∧ Nw w w' := by
  obtain ⟨o, k, rfl, hk, hk2, hr⟩ := h
  obtain ⟨a, b, c, d, ht, g0, g1, g2, g3⟩ := take4 l hl
  have h0 := hr.at _ _ g0; have h1 := hr.at _ _ g1; have h2 := hr.at _ _ g2; have h3 := hr.at _ _ g3
  rw [Nat.add_zero] at h0
  have hz := lo32_nat l a b c d ht
  generalize l.length = n at *
  clear hr ht g0 g1 g2 g3
  have e : Hid (((lo32 l).toNat : Int) = ((a.toNat + b.toNat * 256 + c.toNat * 65536 + d.toNat * 16777216 : Nat) : Int)) := by rw [hz]; exact rfl
  clear hz
  go_enter Try.func38, Try.ntmps38
  go_wp2_with fail
  go_quiet (fail)
  go_wp2
  go_ret
  exact ⟨congrArg (fun z => Ending.returned (.int .u32 z)) ((i_or32 a b c d).trans e.out.symm), (Fr.refl _ _).drewN _⟩
theorem rlow32_any (g : Nat) (v : Value) (l : List By) (w : World) (h : SlB g v l w) (hl : 4 ≤ l.length) : Calls Try.prog 27 #[v] w fun e w' => e = .returned (.int .u32 (lo32 l).toNat) ∧ Nw w w' := by
  obtain ⟨o, k, rfl, hk, hk2, hr⟩ := h
  obtain ⟨a, b, c, d, ht, g0, g1, g2, g3⟩ := take4 l hl
  have h0 := hr.at _ _ g0; have h1 := hr.at _ _ g1; have h2 := hr.at _ _ g2; have h3 := hr.at _ _ g3
  rw [Nat.add_zero] at h0
  have hz := lo32_nat l a b c d ht
  generalize l.length = n at *
  clear hr ht g0 g1 g2 g3
  have e : Hid (((lo32 l).toNat : Int) = ((a.toNat + b.toNat * 256 + c.toNat * 65536 + d.toNat * 16777216 : Nat) : Int)) := by rw [hz]; exact rfl
  clear hz
  go_enter Try.func27, Try.ntmps27
  go_wp2_with fail
  go_quiet (fail)
  go_wp2
  go_ret
  exact ⟨congrArg (fun z => Ending.returned (.int .u32 z)) (by have := e.out; have ha := a.isLt; have hb := b.isLt; have hc := c.isLt; have hd := d.isLt; omega), (Fr.refl _ _).drewN _⟩
theorem SlB.drop {g : Nat} {o n c k : Nat} {l : List By} {w : World} (hr : Rd g o l w) (hk : k ≤ l.length) (hc : l.length ≤ c) (hc2 : c < 9223372036854775808) :
    SlB g (.slice (some (if c = k then ⟨g, o, none⟩ else ⟨g, o + k, none⟩)) (l.length - k) (c - k)) (l.drop k) w := by
  by_cases h : c = k
  · rw [if_pos h]
    have : l.drop k = [] := by simp; omega
    rw [this]
    exact ⟨o, c - k, by simp; omega, by simp, by omega, Rd.nil _ _ _⟩
  · rw [if_neg h]
    exact ⟨o + k, c - k, by simp, by simp; omega, by omega, hr.drop k⟩
theorem SlB.dropAt {g : Nat} {o n c k : Nat} {l : List By} {w : World} (hr : Rd g o l w) (hk : k ≤ l.length) (hc : l.length ≤ c) (hc2 : c < 9223372036854775808) :
    SlB g (.slice (some ⟨g, o + k, none⟩) (l.length - k) (c - k)) (l.drop k) w := ⟨o + k, c - k, by simp, by simp; omega, by omega, hr.drop k⟩
theorem SlB.stay {g : Nat} {o n c k : Nat} {l : List By} {w : World} (hk : k = l.length) (hc : k = c) :
    SlB g (.slice (some ⟨g, o, none⟩) (l.length - k) (c - k)) (l.drop k) w := by
  subst hk; rw [List.drop_length]; exact ⟨o, c - l.length, by simp, by simp, by omega, Rd.nil _ _ _⟩
theorem cbase {f : FuncId} {args : Array Value} {w W : World} {v : Value} (h : Nw w W) (k : Calls Try.prog f args W fun e w' => e = .returned v ∧ Nw W w') : Calls Try.prog f args W fun e w' => e = .returned v ∧ Nw w w' :=
  k.mono (fun e w' hk => ⟨hk.1, h.trans hk.2⟩)
set_option maxHeartbeats 4000000 in
theorem low64_any (g : Nat) (v : Value) (l : List By) (w : World) (h : SlB g v l w) (hl : 8 ≤ l.length) : Calls Try.prog 41 #[v] w fun e w' => e = .returned (.int .u64 (lo64 l).toNat) ∧ Nw w w' := by
  obtain ⟨o, k, rfl, hk, hk2, hr⟩ := h
  have e : Hid (((lo64 l).toNat : Int) = (((lo32 l).toNat + (lo32 (l.drop 4)).toNat * 4294967296 : Nat) : Int)) := by rw [lo64_nat l hl]; exact rfl
  have H1 : Hid (∀ W, Nw w W → Calls Try.prog 38 #[.slice (some ⟨g, o, none⟩) l.length k] W fun e w' => e = .returned (.int .u32 (lo32 l).toNat) ∧ Nw w w') := fun W hW => cbase hW (low32_any g _ l _ ⟨o, k, rfl, hk, hk2, hr.nw hW⟩ (by omega))
  have H2 : Hid (∀ W, Nw w W → Calls Try.prog 38 #[.slice (some ⟨g, o + 4, none⟩) (l.length - 4) (k - 4)] W fun e w' => e = .returned (.int .u32 (lo32 (l.drop 4)).toNat) ∧ Nw w w') := fun W hW => cbase hW (low32_any g _ _ _ (SlB.dropAt (n := 0) (hr.nw hW) (by omega) hk hk2) (by simp; omega))
  generalize l.length = n at *
  generalize lo32 l = A at *
  generalize lo32 (l.drop 4) = B at *
  clear hr
  have b1 : (4 : Int) ≤ (n : Int) := by omega
  have b2 : ¬ k = 4 := by omega
  go_enter Try.func41, Try.ntmps41
  go_wp2_with fail
  go_region_held3 (fun w' => Nw w w') (first | assumption | exact (Fr.refl _ _).drew | exact Fr.refl _ _)
    (first
      | (go_at_call 38; with_reducible refine (H1.out _ ?_).mono ?_; (first | assumption | exact (Fr.refl _ _).drew | exact Fr.refl _ _); rintro e w1 ⟨rfl, hN1⟩)
      | (go_at_call 38; with_reducible refine (H2.out _ ?_).mono ?_; (first | assumption | exact (Fr.refl _ _).drew | exact Fr.refl _ _); rintro e w2 ⟨rfl, hN2⟩))
  go_wp2
  go_ret
  exact ⟨congrArg (fun z => Ending.returned (.int .u64 z)) (by rw [wrap_b32, wrap_b32, wrap_b32s]; exact (i_or64 A B).trans e.out.symm), by assumption⟩
set_option maxHeartbeats 4000000 in
theorem rlow64_any (g : Nat) (v : Value) (l : List By) (w : World) (h : SlB g v l w) (hl : 8 ≤ l.length) : Calls Try.prog 29 #[v] w fun e w' => e = .returned (.int .u64 (lo64 l).toNat) ∧ Nw w w' := by
  obtain ⟨o, k, rfl, hk, hk2, hr⟩ := h
  have e : Hid (((lo64 l).toNat : Int) = (((lo32 l).toNat + (lo32 (l.drop 4)).toNat * 4294967296 : Nat) : Int)) := by rw [lo64_nat l hl]; exact rfl
  have H1 : Hid (∀ W, Nw w W → Calls Try.prog 27 #[.slice (some ⟨g, o, none⟩) l.length k] W fun e w' => e = .returned (.int .u32 (lo32 l).toNat) ∧ Nw w w') := fun W hW => cbase hW (rlow32_any g _ l _ ⟨o, k, rfl, hk, hk2, hr.nw hW⟩ (by omega))
  have H2 : Hid (∀ W, Nw w W → Calls Try.prog 27 #[.slice (some ⟨g, o + 4, none⟩) (l.length - 4) (k - 4)] W fun e w' => e = .returned (.int .u32 (lo32 (l.drop 4)).toNat) ∧ Nw w w') := fun W hW => cbase hW (rlow32_any g _ _ _ (SlB.dropAt (n := 0) (hr.nw hW) (by omega) hk hk2) (by simp; omega))
  generalize l.length = n at *
  generalize lo32 l = A at *
  generalize lo32 (l.drop 4) = B at *
  clear hr
  have b1 : (4 : Int) ≤ (n : Int) := by omega
  have b2 : ¬ k = 4 := by omega
  go_enter Try.func29, Try.ntmps29
  go_wp2_with fail
  go_region_held3 (fun w' => Nw w w') (first | assumption | exact (Fr.refl _ _).drew | exact Fr.refl _ _)
    (first
      | (go_at_call 27; with_reducible refine (H1.out _ ?_).mono ?_; (first | assumption | exact (Fr.refl _ _).drew | exact Fr.refl _ _); rintro e w1 ⟨rfl, hN1⟩)
      | (go_at_call 27; with_reducible refine (H2.out _ ?_).mono ?_; (first | assumption | exact (Fr.refl _ _).drew | exact Fr.refl _ _); rintro e w2 ⟨rfl, hN2⟩))
  go_wp2
  go_ret
  have hA := A.isLt
  have hB := B.isLt
  exact ⟨congrArg (fun z => Ending.returned (.int .u64 z)) (by have := e.out; simp only [IntKind.wrap_u64]; omega), by assumption⟩
theorem round_at (v x : BitVec 64) (y z : Int) (hy : y = v.toNat) (hz : z = x.toNat) (w : World) : Calls Try.prog 40 #[.int .u64 y, .int .u64 z] w fun e w' => e = .returned (.int .u64 (rd64 v x).toNat) ∧ Nw w w' := by
  subst hy hz
  have H : Hid (∀ z : Int, z = (v + x * 14029467366897019727#64).toNat → Calls Try.prog 49 #[.int .u64 z, .int .i64 31] w fun e w' => e = .returned (.int .u64 ((v + x * 14029467366897019727#64).rotateLeft 31).toNat) ∧ Nw w w') := fun z hz => rot64_at _ 31 z hz (by decide) (by decide) w
  have e : Hid (((rd64 v x).toNat : Int) = (((v + x * 14029467366897019727#64).rotateLeft 31).toNat * 11400714785074694791 : Int) % 18446744073709551616) := by show _ = _; rw [rd64, i_mul64]; rfl
  have e2 : Hid ((((v + x * 14029467366897019727#64).toNat : Int)) = ((v.toNat : Int) + x.toNat * 14029467366897019727) % 18446744073709551616) := by show _ = _; rw [i_add64, i_mul64, show ((14029467366897019727#64 : BitVec 64).toNat : Int) = 14029467366897019727 from rfl]; omega
  generalize (v + x * 14029467366897019727#64).rotateLeft 31 = R at *
  generalize v + x * 14029467366897019727#64 = S at *
  go_enter Try.func40, Try.ntmps40
  go_wp2_with fail
  with_reducible refine (H.out _ ?_).mono ?_
  · have := e2.out; simp only [IntKind.wrap_u64]; omega
  rintro e' w1 ⟨rfl, hN1⟩
  go_wp2
  go_ret
  exact ⟨congrArg (fun z => Ending.returned (.int .u64 z)) (by have := e.out; simp only [IntKind.wrap_u64]; omega), by assumption⟩
theorem rround_at (v x : BitVec 64) (y z : Int) (hy : y = v.toNat) (hz : z = x.toNat) (w : World) : Calls Try.prog 28 #[.int .u64 y, .int .u64 z] w fun e w' => e = .returned (.int .u64 (rd64 v x).toNat) ∧ Nw w w' := by
  subst hy hz
  have H : Hid (∀ z : Int, z = (v + x * 14029467366897019727#64).toNat → Calls Try.prog 30 #[.int .u64 z, .int .i64 31] w fun e w' => e = .returned (.int .u64 ((v + x * 14029467366897019727#64).rotateLeft 31).toNat) ∧ Nw w w') := fun z hz => rrot64_at _ 31 z hz (by decide) (by decide) w
  have e : Hid (((rd64 v x).toNat : Int) = (((v + x * 14029467366897019727#64).rotateLeft 31).toNat * 11400714785074694791 : Int) % 18446744073709551616) := by show _ = _; rw [rd64, i_mul64]; rfl
  have e2 : Hid ((((v + x * 14029467366897019727#64).toNat : Int)) = ((v.toNat : Int) + x.toNat * 14029467366897019727) % 18446744073709551616) := by show _ = _; rw [i_add64, i_mul64, show ((14029467366897019727#64 : BitVec 64).toNat : Int) = 14029467366897019727 from rfl]; omega
  generalize (v + x * 14029467366897019727#64).rotateLeft 31 = R at *
  generalize v + x * 14029467366897019727#64 = S at *
  go_enter Try.func28, Try.ntmps28
  go_wp2_with fail
  with_reducible refine (H.out _ ?_).mono ?_
  · have := e2.out; simp only [IntKind.wrap_u64]; omega
  rintro e' w1 ⟨rfl, hN1⟩
  go_wp2
  go_ret
  exact ⟨congrArg (fun z => Ending.returned (.int .u64 z)) (by have := e.out; simp only [IntKind.wrap_u64]; omega), by assumption⟩
end Go.Proofs.Ytlfcgldbgejfbaa

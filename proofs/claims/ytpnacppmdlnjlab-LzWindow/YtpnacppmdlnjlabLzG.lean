import Derived.Test.YtpnacppmdlnjlabLzGa
namespace Go.Proofs.Ytpnacppmdlnjlab
open Go.RowKit
set_option linter.unusedVariables false
section
variable (P : Ending → World → Prop) (R : World → Prop) (B1 B2 B3 L q low : Nat) (ty : TypeId) (v : Value) (w W0 : World) (hW : w.alloc (.cells #[.int .i64 L, .func (.func 21) #[] #[.pointer (some ⟨B2, 0, none⟩)], .func (.func 19) #[] #[.pointer (some ⟨B1, 0, none⟩), .pointer (some ⟨B2, 0, none⟩)], .func (.func 20) #[] #[.pointer (some ⟨B3, 0, none⟩)]] 44) = W0) (hq : w.heap.size = q)
include hW hq
set_option maxHeartbeats 4000000 in
theorem sm_short (at' : Nat) (hx : Bx q B1 B2 B3 L W0) (HN : Hid (Calls Try.prog 21 #[.pointer (some ⟨B2, 0, none⟩)] W0 fun e w' => e = .returned (.int .i64 at') ∧ Bx q B1 B2 B3 L w' ∧
      Hid (Calls Try.prog 19 #[.int .i64 2, .pointer (some ⟨B1, 0, none⟩), .pointer (some ⟨B2, 0, none⟩)] w' fun e w2 => e = .returned (.tuple #[.slice none 0 0, .bool false]) ∧ Bx q B1 B2 B3 L w2 ∧ R w2)))
    (HF : Hid (∀ w', R w' → P (.returned (.tuple #[.int .i64 L, .int .i64 4])) w')) : Calls Try.prog 13 #[.agg (rdsV B1 B2 B3 L).toArray, .iface ty v, .int .u8 low] w P := by
  rw [rdsV_eq]
  obtain ⟨x0, x1, x2, x3⟩ := hx
  go_enter Try.func13, Try.ntmps13
  go_wp2_with (first
    | (go_at_call 21; with_reducible refine (HN.out).mono ?_; rintro e w1 ⟨rfl, ⟨y0, y1, y2, y3⟩, HR⟩)
    | (go_at_call 19; with_reducible refine (HR.out).mono ?_; rintro e w2 ⟨rfl, ⟨u0, u1, u2, u3⟩, hR⟩))
  exact HF.out _ hR
/-- Up to the two bytes. -/
def Two (q B1 B2 B3 L at' : Nat) (x y : Nat) (W0 : World) (R : World → Prop) : Prop := Calls Try.prog 21 #[.pointer (some ⟨B2, 0, none⟩)] W0 fun e w' => e = .returned (.int .i64 at') ∧ Bx q B1 B2 B3 L w' ∧
      Hid (Calls Try.prog 19 #[.int .i64 2, .pointer (some ⟨B1, 0, none⟩), .pointer (some ⟨B2, 0, none⟩)] w' fun e w2 => ∃ g o d, e = .returned (.tuple #[.slice (some ⟨g, o, none⟩) 2 d, .bool true]) ∧ w2.cell? ⟨g, o, none⟩ = some (.int .u8 x) ∧ w2.cell? ⟨g, o + 1, none⟩ = some (.int .u8 y) ∧ Bx q B1 B2 B3 L w2 ∧ Hid (R w2))
set_option maxHeartbeats 4000000 in
set_option maxRecDepth 100000 in
theorem sm_zero (at' : Nat) (hx : Bx q B1 B2 B3 L W0) (HN : Hid (Two q B1 B2 B3 L at' 0 0 W0 R))
    (HF : Hid (∀ w' w'', R w' → Nw w' w'' → P (.returned (.tuple #[.int .i64 at', .int .i64 30])) w'')) : Calls Try.prog 13 #[.agg (rdsV B1 B2 B3 L).toArray, .iface ty v, .int .u8 low] w P := by
  rw [rdsV_eq]
  obtain ⟨x0, x1, x2, x3⟩ := hx
  unfold Two at HN
  go_enter Try.func13, Try.ntmps13
  go_wp2_with (first
    | (go_at_call 21; with_reducible refine (HN.out).mono ?_; rintro e w1 ⟨rfl, ⟨y0, y1, y2, y3⟩, HR⟩)
    | (go_at_call 19; with_reducible refine (HR.out).mono ?_; rintro e w2 ⟨g, o, d, rfl, hb0, hb1, ⟨u0, u1, u2, u3⟩, hR⟩))
  go_quiet (fail)
  go_wp2
  exact HF.out _ _ hR.out ((Fr.refl _ _).drewN _)
set_option maxHeartbeats 4000000 in
set_option maxRecDepth 100000 in
theorem sm_far (at' x y : Nat) (hx8 : x < 256) (hy8 : y < 256) (h0 : ¬ x + 256 * y = 0) (fC : Nat) (mC : ∀ w, (method 185 ty v "satchel/lz.reaches").run Try.prog w = .ok (fC, v) w) (eC : ∀ args w, (callFunc fC args).run Try.prog w = .ok (.enter fC args) w) (hx : Bx q B1 B2 B3 L W0) (HN : Hid (Two q B1 B2 B3 L at' x y W0 (fun w' => ∀ V, Nw w' V → Calls Try.prog fC #[v, .int .i64 (x + 256 * y : Nat)] V fun e w3 => e = .returned (.bool false) ∧ R w3)))
    (HF : Hid (∀ w', R w' → P (.returned (.tuple #[.int .i64 at', .int .i64 30])) w')) : Calls Try.prog 13 #[.agg (rdsV B1 B2 B3 L).toArray, .iface ty v, .int .u8 low] w P := by
  rw [rdsV_eq]
  obtain ⟨x0, x1, x2, x3⟩ := hx
  unfold Two at HN
  go_enter Try.func13, Try.ntmps13
  go_wp2_with (first
    | (go_at_call 21; with_reducible refine (HN.out).mono ?_; rintro e w1 ⟨rfl, ⟨y0, y1, y2, y3⟩, HR⟩)
    | (go_at_call 19; with_reducible refine (HR.out).mono ?_; rintro e w2 ⟨g, o, d, rfl, hb0, hb1, ⟨u0, u1, u2, u3⟩, hR⟩))
  go_quiet (fail)
  rw [two_bytes x y hx8 hy8]
  have hR' : Hid (∀ V, Nw w2 V → Calls Try.prog fC #[v, .int .i64 (x + 256 * y : Nat)] V fun e w3 => e = .returned (.bool false) ∧ R w3) := hR.out
  clear hR
  have h0' : Hid (¬ x + 256 * y = 0) := h0
  generalize x + 256 * y = bk at *
  clear hb0 hb1
  go_wp2_with (first
    | (go_at_fn fC; with_reducible refine (hR'.out _ ((Fr.refl _ _).drewN _)).mono ?_; rintro e w3 ⟨rfl, hR3⟩))
  exact HF.out _ hR3
set_option maxHeartbeats 4000000 in
set_option maxRecDepth 100000 in
theorem sm_cut (at' x y : Nat) (hx8 : x < 256) (hy8 : y < 256) (h0 : ¬ x + 256 * y = 0) (fC : Nat) (mC : ∀ w, (method 185 ty v "satchel/lz.reaches").run Try.prog w = .ok (fC, v) w) (eC : ∀ args w, (callFunc fC args).run Try.prog w = .ok (.enter fC args) w) (hx : Bx q B1 B2 B3 L W0) (HN : Hid (Two q B1 B2 B3 L at' x y W0 (fun w' => ∀ V, Nw w' V → Calls Try.prog fC #[v, .int .i64 (x + 256 * y : Nat)] V fun e w3 => e = .returned (.bool true) ∧ Bx q B1 B2 B3 L w3 ∧
      Hid (Calls Try.prog 20 #[.int .u8 low, .pointer (some ⟨B3, 0, none⟩)] w3 fun e w4 => e = .returned (.tuple #[.int .i64 0, .bool false]) ∧ Bx q B1 B2 B3 L w4 ∧ R w4))))
    (HF : Hid (∀ w', R w' → P (.returned (.tuple #[.int .i64 L, .int .i64 4])) w')) : Calls Try.prog 13 #[.agg (rdsV B1 B2 B3 L).toArray, .iface ty v, .int .u8 low] w P := by
  rw [rdsV_eq]
  obtain ⟨x0, x1, x2, x3⟩ := hx
  unfold Two at HN
  go_enter Try.func13, Try.ntmps13
  go_wp2_with (first
    | (go_at_call 21; with_reducible refine (HN.out).mono ?_; rintro e w1 ⟨rfl, ⟨y0, y1, y2, y3⟩, HR⟩)
    | (go_at_call 19; with_reducible refine (HR.out).mono ?_; rintro e w2 ⟨g, o, d, rfl, hb0, hb1, ⟨u0, u1, u2, u3⟩, hR⟩))
  go_quiet (fail)
  rw [two_bytes x y hx8 hy8]
  have hR' : Hid (∀ V, Nw w2 V → Calls Try.prog fC #[v, .int .i64 (x + 256 * y : Nat)] V fun e w3 => e = .returned (.bool true) ∧ Bx q B1 B2 B3 L w3 ∧
      Hid (Calls Try.prog 20 #[.int .u8 low, .pointer (some ⟨B3, 0, none⟩)] w3 fun e w4 => e = .returned (.tuple #[.int .i64 0, .bool false]) ∧ Bx q B1 B2 B3 L w4 ∧ R w4)) := hR.out
  clear hR
  generalize x + 256 * y = bk at *
  clear hb0 hb1
  go_wp2_with (first
    | (go_at_fn fC; with_reducible refine (hR'.out _ ((Fr.refl _ _).drewN _)).mono ?_; rintro e w3 ⟨rfl, ⟨z0, z1, z2, z3⟩, HR3⟩)
    | (go_at_call 20; with_reducible refine (HR3.out).mono ?_; rintro e w4 ⟨rfl, ⟨t0, t1, t2, t3⟩, hR4⟩))
  exact HF.out _ hR4
set_option maxHeartbeats 4000000 in
set_option maxRecDepth 100000 in
theorem sm_full (at' x y n : Nat) (hx8 : x < 256) (hy8 : y < 256) (h0 : ¬ x + 256 * y = 0) (hn : n < 4611686018427387000) (fC fR : Nat) (mC : ∀ w, (method 185 ty v "satchel/lz.reaches").run Try.prog w = .ok (fC, v) w) (eC : ∀ args w, (callFunc fC args).run Try.prog w = .ok (.enter fC args) w) (mR : ∀ w, (method 185 ty v "satchel/lz.room").run Try.prog w = .ok (fR, v) w) (eR : ∀ args w, (callFunc fR args).run Try.prog w = .ok (.enter fR args) w) (hx : Bx q B1 B2 B3 L W0) (HN : Hid (Two q B1 B2 B3 L at' x y W0 (fun w' => ∀ V, Nw w' V → Calls Try.prog fC #[v, .int .i64 (x + 256 * y : Nat)] V fun e w3 => e = .returned (.bool true) ∧ Bx q B1 B2 B3 L w3 ∧
      Hid (Calls Try.prog 20 #[.int .u8 low, .pointer (some ⟨B3, 0, none⟩)] w3 fun e w4 => e = .returned (.tuple #[.int .i64 n, .bool true]) ∧ Bx q B1 B2 B3 L w4 ∧
        Hid (∀ z : Int, z = n + 4 → Calls Try.prog fR #[v, .int .i64 z] w4 fun e w5 => e = .returned (.bool false) ∧ Bx q B1 B2 B3 L w5 ∧ R w5)))))
    (HF : Hid (∀ w', R w' → P (.returned (.tuple #[.int .i64 at', .int .i64 32])) w')) : Calls Try.prog 13 #[.agg (rdsV B1 B2 B3 L).toArray, .iface ty v, .int .u8 low] w P := by
  rw [rdsV_eq]
  obtain ⟨x0, x1, x2, x3⟩ := hx
  unfold Two at HN
  go_enter Try.func13, Try.ntmps13
  go_wp2_with (first
    | (go_at_call 21; with_reducible refine (HN.out).mono ?_; rintro e w1 ⟨rfl, ⟨y0, y1, y2, y3⟩, HR⟩)
    | (go_at_call 19; with_reducible refine (HR.out).mono ?_; rintro e w2 ⟨g, o, d, rfl, hb0, hb1, ⟨u0, u1, u2, u3⟩, hR⟩))
  go_quiet (fail)
  rw [two_bytes x y hx8 hy8]
  have hR' : Hid (∀ V, Nw w2 V → Calls Try.prog fC #[v, .int .i64 (x + 256 * y : Nat)] V fun e w3 => e = .returned (.bool true) ∧ Bx q B1 B2 B3 L w3 ∧
      Hid (Calls Try.prog 20 #[.int .u8 low, .pointer (some ⟨B3, 0, none⟩)] w3 fun e w4 => e = .returned (.tuple #[.int .i64 n, .bool true]) ∧ Bx q B1 B2 B3 L w4 ∧
        Hid (∀ z : Int, z = n + 4 → Calls Try.prog fR #[v, .int .i64 z] w4 fun e w5 => e = .returned (.bool false) ∧ Bx q B1 B2 B3 L w5 ∧ R w5))) := hR.out
  clear hR
  generalize x + 256 * y = bk at *
  clear hb0 hb1
  go_wp2_with (first
    | (go_at_fn fC; with_reducible refine (hR'.out _ ((Fr.refl _ _).drewN _)).mono ?_; rintro e w3 ⟨rfl, ⟨z0, z1, z2, z3⟩, HR3⟩)
    | (go_at_call 20; with_reducible refine (HR3.out).mono ?_; rintro e w4 ⟨rfl, ⟨t0, t1, t2, t3⟩, HR4⟩)
    | (go_at_fn fR; with_reducible refine (HR4.out _ rfl).mono ?_; rintro e w5 ⟨rfl, ⟨s0, s1, s2, s3⟩, hR5⟩))
  exact HF.out _ hR5
set_option maxHeartbeats 4000000 in
set_option maxRecDepth 100000 in
theorem sm_ok (at' x y n : Nat) (hx8 : x < 256) (hy8 : y < 256) (h0 : ¬ x + 256 * y = 0) (hn : n < 4611686018427387000) (fC fR fM : Nat) (mC : ∀ w, (method 185 ty v "satchel/lz.reaches").run Try.prog w = .ok (fC, v) w) (eC : ∀ args w, (callFunc fC args).run Try.prog w = .ok (.enter fC args) w) (mR : ∀ w, (method 185 ty v "satchel/lz.room").run Try.prog w = .ok (fR, v) w) (eR : ∀ args w, (callFunc fR args).run Try.prog w = .ok (.enter fR args) w) (mM : ∀ w, (method 185 ty v "satchel/lz.match").run Try.prog w = .ok (fM, v) w) (eM : ∀ args w, (callFunc fM args).run Try.prog w = .ok (.enter fM args) w) (hx : Bx q B1 B2 B3 L W0) (HN : Hid (Two q B1 B2 B3 L at' x y W0 (fun w' => ∀ V, Nw w' V → Calls Try.prog fC #[v, .int .i64 (x + 256 * y : Nat)] V fun e w3 => e = .returned (.bool true) ∧ Bx q B1 B2 B3 L w3 ∧
      Hid (Calls Try.prog 20 #[.int .u8 low, .pointer (some ⟨B3, 0, none⟩)] w3 fun e w4 => e = .returned (.tuple #[.int .i64 n, .bool true]) ∧ Bx q B1 B2 B3 L w4 ∧
        Hid (∀ z : Int, z = n + 4 → Calls Try.prog fR #[v, .int .i64 z] w4 fun e w5 => e = .returned (.bool true) ∧ Bx q B1 B2 B3 L w5 ∧ Hid (∀ z : Int, z = n + 4 → Calls Try.prog fM #[v, .int .i64 (x + 256 * y : Nat), .int .i64 z] w5 fun e w6 => (∃ r, e = .returned r) ∧ R w6))))))
    (HF : Hid (∀ w', R w' → P (.returned (.tuple #[.int .i64 0, .int .i64 0])) w')) : Calls Try.prog 13 #[.agg (rdsV B1 B2 B3 L).toArray, .iface ty v, .int .u8 low] w P := by
  rw [rdsV_eq]
  obtain ⟨x0, x1, x2, x3⟩ := hx
  unfold Two at HN
  go_enter Try.func13, Try.ntmps13
  go_wp2_with (first
    | (go_at_call 21; with_reducible refine (HN.out).mono ?_; rintro e w1 ⟨rfl, ⟨y0, y1, y2, y3⟩, HR⟩)
    | (go_at_call 19; with_reducible refine (HR.out).mono ?_; rintro e w2 ⟨g, o, d, rfl, hb0, hb1, ⟨u0, u1, u2, u3⟩, hR⟩))
  go_quiet (fail)
  rw [two_bytes x y hx8 hy8]
  have hR' : Hid (∀ V, Nw w2 V → Calls Try.prog fC #[v, .int .i64 (x + 256 * y : Nat)] V fun e w3 => e = .returned (.bool true) ∧ Bx q B1 B2 B3 L w3 ∧
      Hid (Calls Try.prog 20 #[.int .u8 low, .pointer (some ⟨B3, 0, none⟩)] w3 fun e w4 => e = .returned (.tuple #[.int .i64 n, .bool true]) ∧ Bx q B1 B2 B3 L w4 ∧
        Hid (∀ z : Int, z = n + 4 → Calls Try.prog fR #[v, .int .i64 z] w4 fun e w5 => e = .returned (.bool true) ∧ Bx q B1 B2 B3 L w5 ∧ Hid (∀ z : Int, z = n + 4 → Calls Try.prog fM #[v, .int .i64 (x + 256 * y : Nat), .int .i64 z] w5 fun e w6 => (∃ r, e = .returned r) ∧ R w6)))) := hR.out
  clear hR HN
  generalize x + 256 * y = bk at *
  clear hb0 hb1
  go_wp2_with (first
    | (go_at_fn fC; with_reducible refine (hR'.out _ ((Fr.refl _ _).drewN _)).mono ?_; rintro e w3 ⟨rfl, ⟨z0, z1, z2, z3⟩, HR3⟩)
    | (go_at_call 20; with_reducible refine (HR3.out).mono ?_; rintro e w4 ⟨rfl, ⟨t0, t1, t2, t3⟩, HR4⟩)
    | (go_at_fn fR; with_reducible refine (HR4.out _ rfl).mono ?_; rintro e w5 ⟨rfl, ⟨s0, s1, s2, s3⟩, HR5⟩)
    | (go_at_fn fM; with_reducible refine (HR5.out _ rfl).mono ?_; rintro e w6 ⟨⟨r6, rfl⟩, hR6⟩))
  exact HF.out _ hR6
end
end Go.Proofs.Ytpnacppmdlnjlab

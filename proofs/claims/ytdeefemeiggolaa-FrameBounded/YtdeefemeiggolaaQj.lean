import Derived.Test.YtdeefemeiggolaaQi
namespace Go.Proofs.Ytdeefemeiggolaa
open Go.RowKit
set_option linter.unusedVariables false
section
variable (P : Ending → World → Prop) (R : World → Prop) (B1 B2 B3 L q low : Nat) (ty : TypeId) (v : Value) (w W0 : World) (hW : w.alloc (.cells #[.int .i64 L, .func (.func 104) #[] #[.pointer (some ⟨B2, 0, none⟩)], .func (.func 102) #[] #[.pointer (some ⟨B1, 0, none⟩), .pointer (some ⟨B2, 0, none⟩)], .func (.func 103) #[] #[.pointer (some ⟨B3, 0, none⟩)]] 160) = W0) (hq : w.heap.size = q)
include hW hq
set_option maxHeartbeats 4000000 in
theorem sm_short (at' : Nat) (hx : Bx q B1 B2 B3 L W0) (HN : Hid (Calls Try.prog 104 #[.pointer (some ⟨B2, 0, none⟩)] W0 fun e w' => e = .returned (.int .i64 at') ∧ Bx q B1 B2 B3 L w' ∧
      Hid (Calls Try.prog 102 #[.int .i64 2, .pointer (some ⟨B1, 0, none⟩), .pointer (some ⟨B2, 0, none⟩)] w' fun e w2 => e = .returned (.tuple #[.slice none 0 0, .bool false]) ∧ Bx q B1 B2 B3 L w2 ∧ R w2)))
    (HF : Hid (∀ w', R w' → P (.returned (.tuple #[.int .i64 L, .int .i64 4])) w')) : Calls Try.prog 101 #[.agg (rdsV B1 B2 B3 L).toArray, .iface ty v, .int .u8 low] w P := by
  rw [rdsV_eq]
  obtain ⟨x0, x1, x2, x3⟩ := hx
  go_enter Try.func101, Try.ntmps101
  go_wp2_with (first
    | (go_at_call 104; with_reducible refine (HN.out).mono ?_; rintro e w1 ⟨rfl, ⟨y0, y1, y2, y3⟩, HR⟩)
    | (go_at_call 102; with_reducible refine (HR.out).mono ?_; rintro e w2 ⟨rfl, ⟨u0, u1, u2, u3⟩, hR⟩))
  exact HF.out _ hR
/-- Up to the two bytes. -/
def Two (q B1 B2 B3 L at' : Nat) (x y : Nat) (W0 : World) (R : World → Prop) : Prop := Calls Try.prog 104 #[.pointer (some ⟨B2, 0, none⟩)] W0 fun e w' => e = .returned (.int .i64 at') ∧ Bx q B1 B2 B3 L w' ∧
      Hid (Calls Try.prog 102 #[.int .i64 2, .pointer (some ⟨B1, 0, none⟩), .pointer (some ⟨B2, 0, none⟩)] w' fun e w2 => ∃ g o d, e = .returned (.tuple #[.slice (some ⟨g, o, none⟩) 2 d, .bool true]) ∧ w2.cell? ⟨g, o, none⟩ = some (.int .u8 x) ∧ w2.cell? ⟨g, o + 1, none⟩ = some (.int .u8 y) ∧ Bx q B1 B2 B3 L w2 ∧ Hid (R w2))
set_option maxHeartbeats 4000000 in
set_option maxRecDepth 100000 in
theorem sm_zero (at' : Nat) (hx : Bx q B1 B2 B3 L W0) (HN : Hid (Two q B1 B2 B3 L at' 0 0 W0 R))
    (HF : Hid (∀ w' w'', R w' → Nw w' w'' → P (.returned (.tuple #[.int .i64 at', .int .i64 30])) w'')) : Calls Try.prog 101 #[.agg (rdsV B1 B2 B3 L).toArray, .iface ty v, .int .u8 low] w P := by
  rw [rdsV_eq]
  obtain ⟨x0, x1, x2, x3⟩ := hx
  unfold Two at HN
  go_enter Try.func101, Try.ntmps101
  go_wp2_with (first
    | (go_at_call 104; with_reducible refine (HN.out).mono ?_; rintro e w1 ⟨rfl, ⟨y0, y1, y2, y3⟩, HR⟩)
    | (go_at_call 102; with_reducible refine (HR.out).mono ?_; rintro e w2 ⟨g, o, d, rfl, hb0, hb1, ⟨u0, u1, u2, u3⟩, hR⟩))
  go_quiet (fail)
  go_wp2
  exact HF.out _ _ hR.out ((Fr.refl _ _).drewN _)
set_option maxHeartbeats 4000000 in
set_option maxRecDepth 100000 in
theorem sm_far (at' x y : Nat) (hx8 : x < 256) (hy8 : y < 256) (h0 : ¬ x + 256 * y = 0) (fC : Nat) (mC : ∀ w, (method 280 ty v "satchel/lz.reaches").run Try.prog w = .ok (fC, v) w) (eC : ∀ args w, (callFunc fC args).run Try.prog w = .ok (.enter fC args) w) (hx : Bx q B1 B2 B3 L W0) (HN : Hid (Two q B1 B2 B3 L at' x y W0 (fun w' => ∀ V, Nw w' V → Calls Try.prog fC #[v, .int .i64 (x + 256 * y : Nat)] V fun e w3 => e = .returned (.bool false) ∧ R w3)))
    (HF : Hid (∀ w', R w' → P (.returned (.tuple #[.int .i64 at', .int .i64 30])) w')) : Calls Try.prog 101 #[.agg (rdsV B1 B2 B3 L).toArray, .iface ty v, .int .u8 low] w P := by
  rw [rdsV_eq]
  obtain ⟨x0, x1, x2, x3⟩ := hx
  unfold Two at HN
  go_enter Try.func101, Try.ntmps101
  go_wp2_with (first
    | (go_at_call 104; with_reducible refine (HN.out).mono ?_; rintro e w1 ⟨rfl, ⟨y0, y1, y2, y3⟩, HR⟩)
    | (go_at_call 102; with_reducible refine (HR.out).mono ?_; rintro e w2 ⟨g, o, d, rfl, hb0, hb1, ⟨u0, u1, u2, u3⟩, hR⟩))
  go_quiet (fail)
  rw [two_bytes x y hx8 hy8]
  have hR' : Hid (∀ V, Nw w2 V → Calls Try.prog fC #[v, .int .i64 (x + 256 * y : Nat)] V fun e w3 => e = .returned (.bool false) ∧ R w3) := hR.out
  clear hR
  have h0' : Hid (¬ x + 256 * y = 0) := h0
  generalize x + 256 * y = bk at *
  clear hb0 hb1
  go_wp2_with (first
    | (go_at_fn fC; with_reducible refine (hR'.out _ ((Fr.refl _ _).drewN _)).mono ?_; rintro e w3 ⟨rfl, hR3⟩))
  exact HF.out _ hR3
set_option maxHeartbeats 4000000 in
set_option maxRecDepth 100000 in
theorem sm_cut (at' x y : Nat) (hx8 : x < 256) (hy8 : y < 256) (h0 : ¬ x + 256 * y = 0) (fC : Nat) (mC : ∀ w, (method 280 ty v "satchel/lz.reaches").run Try.prog w = .ok (fC, v) w) (eC : ∀ args w, (callFunc fC args).run Try.prog w = .ok (.enter fC args) w) (hx : Bx q B1 B2 B3 L W0) (HN : Hid (Two q B1 B2 B3 L at' x y W0 (fun w' => ∀ V, Nw w' V → Calls Try.prog fC #[v, .int .i64 (x + 256 * y : Nat)] V fun e w3 => e = .returned (.bool true) ∧ Bx q B1 B2 B3 L w3 ∧
      Hid (Calls Try.prog 103 #[.int .u8 low, .pointer (some ⟨B3, 0, none⟩)] w3 fun e w4 => e = .returned (.tuple #[.int .i64 0, .bool false]) ∧ Bx q B1 B2 B3 L w4 ∧ R w4))))
    (HF : Hid (∀ w', R w' → P (.returned (.tuple #[.int .i64 L, .int .i64 4])) w')) : Calls Try.prog 101 #[.agg (rdsV B1 B2 B3 L).toArray, .iface ty v, .int .u8 low] w P := by
  rw [rdsV_eq]
  obtain ⟨x0, x1, x2, x3⟩ := hx
  unfold Two at HN
  go_enter Try.func101, Try.ntmps101
  go_wp2_with (first
    | (go_at_call 104; with_reducible refine (HN.out).mono ?_; rintro e w1 ⟨rfl, ⟨y0, y1, y2, y3⟩, HR⟩)
    | (go_at_call 102; with_reducible refine (HR.out).mono ?_; rintro e w2 ⟨g, o, d, rfl, hb0, hb1, ⟨u0, u1, u2, u3⟩, hR⟩))
  go_quiet (fail)
  rw [two_bytes x y hx8 hy8]
  have hR' : Hid (∀ V, Nw w2 V → Calls Try.prog fC #[v, .int .i64 (x + 256 * y : Nat)] V fun e w3 => e = .returned (.bool true) ∧ Bx q B1 B2 B3 L w3 ∧
      Hid (Calls Try.prog 103 #[.int .u8 low, .pointer (some ⟨B3, 0, none⟩)] w3 fun e w4 => e = .returned (.tuple #[.int .i64 0, .bool false]) ∧ Bx q B1 B2 B3 L w4 ∧ R w4)) := hR.out
  clear hR
  generalize x + 256 * y = bk at *
  clear hb0 hb1
  go_wp2_with (first
    | (go_at_fn fC; with_reducible refine (hR'.out _ ((Fr.refl _ _).drewN _)).mono ?_; rintro e w3 ⟨rfl, ⟨z0, z1, z2, z3⟩, HR3⟩)
    | (go_at_call 103; with_reducible refine (HR3.out).mono ?_; rintro e w4 ⟨rfl, ⟨t0, t1, t2, t3⟩, hR4⟩))
  exact HF.out _ hR4
set_option maxHeartbeats 4000000 in
set_option maxRecDepth 100000 in
theorem sm_full (at' x y n : Nat) (hx8 : x < 256) (hy8 : y < 256) (h0 : ¬ x + 256 * y = 0) (hn : n < 4611686018427387000) (fC fR : Nat) (mC : ∀ w, (method 280 ty v "satchel/lz.reaches").run Try.prog w = .ok (fC, v) w) (eC : ∀ args w, (callFunc fC args).run Try.prog w = .ok (.enter fC args) w) (mR : ∀ w, (method 280 ty v "satchel/lz.room").run Try.prog w = .ok (fR, v) w) (eR : ∀ args w, (callFunc fR args).run Try.prog w = .ok (.enter fR args) w) (hx : Bx q B1 B2 B3 L W0) (HN : Hid (Two q B1 B2 B3 L at' x y W0 (fun w' => ∀ V, Nw w' V → Calls Try.prog fC #[v, .int .i64 (x + 256 * y : Nat)] V fun e w3 => e = .returned (.bool true) ∧ Bx q B1 B2 B3 L w3 ∧
      Hid (Calls Try.prog 103 #[.int .u8 low, .pointer (some ⟨B3, 0, none⟩)] w3 fun e w4 => e = .returned (.tuple #[.int .i64 n, .bool true]) ∧ Bx q B1 B2 B3 L w4 ∧
        Hid (∀ z : Int, z = n + 4 → Calls Try.prog fR #[v, .int .i64 z] w4 fun e w5 => e = .returned (.bool false) ∧ Bx q B1 B2 B3 L w5 ∧ R w5)))))
    (HF : Hid (∀ w', R w' → P (.returned (.tuple #[.int .i64 at', .int .i64 32])) w')) : Calls Try.prog 101 #[.agg (rdsV B1 B2 B3 L).toArray, .iface ty v, .int .u8 low] w P := by
  rw [rdsV_eq]
  obtain ⟨x0, x1, x2, x3⟩ := hx
  unfold Two at HN
  go_enter Try.func101, Try.ntmps101
  go_wp2_with (first
    | (go_at_call 104; with_reducible refine (HN.out).mono ?_; rintro e w1 ⟨rfl, ⟨y0, y1, y2, y3⟩, HR⟩)
    | (go_at_call 102; with_reducible refine (HR.out).mono ?_; rintro e w2 ⟨g, o, d, rfl, hb0, hb1, ⟨u0, u1, u2, u3⟩, hR⟩))
  go_quiet (fail)
  rw [two_bytes x y hx8 hy8]
  have hR' : Hid (∀ V, Nw w2 V → Calls Try.prog fC #[v, .int .i64 (x + 256 * y : Nat)] V fun e w3 => e = .returned (.bool true) ∧ Bx q B1 B2 B3 L w3 ∧
      Hid (Calls Try.prog 103 #[.int .u8 low, .pointer (some ⟨B3, 0, none⟩)] w3 fun e w4 => e = .returned (.tuple #[.int .i64 n, .bool true]) ∧ Bx q B1 B2 B3 L w4 ∧
        Hid (∀ z : Int, z = n + 4 → Calls Try.prog fR #[v, .int .i64 z] w4 fun e w5 => e = .returned (.bool false) ∧ Bx q B1 B2 B3 L w5 ∧ R w5))) := hR.out
  clear hR
  generalize x + 256 * y = bk at *
  clear hb0 hb1
  go_wp2_with (first
    | (go_at_fn fC; with_reducible refine (hR'.out _ ((Fr.refl _ _).drewN _)).mono ?_; rintro e w3 ⟨rfl, ⟨z0, z1, z2, z3⟩, HR3⟩)
    | (go_at_call 103; with_reducible refine (HR3.out).mono ?_; rintro e w4 ⟨rfl, ⟨t0, t1, t2, t3⟩, HR4⟩)
    | (go_at_fn fR; with_reducible refine (HR4.out _ rfl).mono ?_; rintro e w5 ⟨rfl, ⟨s0, s1, s2, s3⟩, hR5⟩))
  exact HF.out _ hR5
set_option maxHeartbeats 4000000 in
set_option maxRecDepth 100000 in
theorem sm_ok (at' x y n : Nat) (hx8 : x < 256) (hy8 : y < 256) (h0 : ¬ x + 256 * y = 0) (hn : n < 4611686018427387000) (fC fR fM : Nat) (mC : ∀ w, (method 280 ty v "satchel/lz.reaches").run Try.prog w = .ok (fC, v) w) (eC : ∀ args w, (callFunc fC args).run Try.prog w = .ok (.enter fC args) w) (mR : ∀ w, (method 280 ty v "satchel/lz.room").run Try.prog w = .ok (fR, v) w) (eR : ∀ args w, (callFunc fR args).run Try.prog w = .ok (.enter fR args) w) (mM : ∀ w, (method 280 ty v "satchel/lz.match").run Try.prog w = .ok (fM, v) w) (eM : ∀ args w, (callFunc fM args).run Try.prog w = .ok (.enter fM args) w) (hx : Bx q B1 B2 B3 L W0) (HN : Hid (Two q B1 B2 B3 L at' x y W0 (fun w' => ∀ V, Nw w' V → Calls Try.prog fC #[v, .int .i64 (x + 256 * y : Nat)] V fun e w3 => e = .returned (.bool true) ∧ Bx q B1 B2 B3 L w3 ∧
      Hid (Calls Try.prog 103 #[.int .u8 low, .pointer (some ⟨B3, 0, none⟩)] w3 fun e w4 => e = .returned (.tuple #[.int .i64 n, .bool true]) ∧ Bx q B1 B2 B3 L w4 ∧
        Hid (∀ z : Int, z = n + 4 → Calls Try.prog fR #[v, .int .i64 z] w4 fun e w5 => e = .returned (.bool true) ∧ Bx q B1 B2 B3 L w5 ∧ Hid (∀ z : Int, z = n + 4 → Calls Try.prog fM #[v, .int .i64 (x + 256 * y : Nat), .int .i64 z] w5 fun e w6 => (∃ r, e = .returned r) ∧ R w6))))))
    (HF : Hid (∀ w', R w' → P (.returned (.tuple #[.int .i64 0, .int .i64 0])) w')) : Calls Try.prog 101 #[.agg (rdsV B1 B2 B3 L).toArray, .iface ty v, .int .u8 low] w P := by
  rw [rdsV_eq]
  obtain ⟨x0, x1, x2, x3⟩ := hx
  unfold Two at HN
  go_enter Try.func101, Try.ntmps101
  go_wp2_with (first
    | (go_at_call 104; with_reducible refine (HN.out).mono ?_; rintro e w1 ⟨rfl, ⟨y0, y1, y2, y3⟩, HR⟩)
    | (go_at_call 102; with_reducible refine (HR.out).mono ?_; rintro e w2 ⟨g, o, d, rfl, hb0, hb1, ⟨u0, u1, u2, u3⟩, hR⟩))
  go_quiet (fail)
  rw [two_bytes x y hx8 hy8]
  have hR' : Hid (∀ V, Nw w2 V → Calls Try.prog fC #[v, .int .i64 (x + 256 * y : Nat)] V fun e w3 => e = .returned (.bool true) ∧ Bx q B1 B2 B3 L w3 ∧
      Hid (Calls Try.prog 103 #[.int .u8 low, .pointer (some ⟨B3, 0, none⟩)] w3 fun e w4 => e = .returned (.tuple #[.int .i64 n, .bool true]) ∧ Bx q B1 B2 B3 L w4 ∧
        Hid (∀ z : Int, z = n + 4 → Calls Try.prog fR #[v, .int .i64 z] w4 fun e w5 => e = .returned (.bool true) ∧ Bx q B1 B2 B3 L w5 ∧ Hid (∀ z : Int, z = n + 4 → Calls Try.prog fM #[v, .int .i64 (x + 256 * y : Nat), .int .i64 z] w5 fun e w6 => (∃ r, e = .returned r) ∧ R w6)))) := hR.out
  clear hR HN
  generalize x + 256 * y = bk at *
  clear hb0 hb1
  go_wp2_with (first
    | (go_at_fn fC; with_reducible refine (hR'.out _ ((Fr.refl _ _).drewN _)).mono ?_; rintro e w3 ⟨rfl, ⟨z0, z1, z2, z3⟩, HR3⟩)
    | (go_at_call 103; with_reducible refine (HR3.out).mono ?_; rintro e w4 ⟨rfl, ⟨t0, t1, t2, t3⟩, HR4⟩)
    | (go_at_fn fR; with_reducible refine (HR4.out _ rfl).mono ?_; rintro e w5 ⟨rfl, ⟨s0, s1, s2, s3⟩, HR5⟩)
    | (go_at_fn fM; with_reducible refine (HR5.out _ rfl).mono ?_; rintro e w6 ⟨⟨r6, rfl⟩, hR6⟩))
  exact HF.out _ hR6
end
end Go.Proofs.Ytdeefemeiggolaa

namespace Go.Proofs.Ytdeefemeiggolaa
open Go.RowKit
set_option linter.unusedVariables false
set_option maxHeartbeats 8000000 in
theorem scanMatch_any {σ : Type} {T : Tk σ} {D : Nat} {ty : TypeId} {v : Value} {fR fP fC fM fE : Nat} {TI : σ → (Nat → Prop) → World → Prop} (HT : Tkr T D ty v fR fP fC fM fE TI)
    {B1 B2 B3 : Nat} {a : Option Addr} {c : Nat} {b : List By} {i : Nat} {s : σ} {K : Nat → Prop} {w : World} (hR : Rds D B1 B2 B3 a c b i w) (hT : TI s K w) (hK : KK K D B1 B2 B3 w) (hb : b ≠ []) (low : Nat) (hl : low ≤ 15) :
    Calls Try.prog 101 #[.agg (rdsV B1 B2 B3 b.length).toArray, .iface ty v, .int .u8 low] w (Stepd TI D B1 B2 B3 a c b K (matchS T b.length low (b.drop i) s) w) := by
  obtain ⟨W0, hW0⟩ : ∃ W0, w.alloc (.cells (rdsV B1 B2 B3 b.length).toArray 160) = W0 := ⟨_, rfl⟩
  have hN0 : Nw w W0 := by rw [← hW0]; exact (Fr.refl _ _).alloc _
  have hs0 : W0.heap.size = w.heap.size + 1 := by rw [← hW0]; simp
  have hx0 : Bx w.heap.size B1 B2 B3 b.length W0 := by rw [← hW0]; exact Bx.new _ _ _ _ _
  have hR0 := hR.nw hN0
  have hd2 := hR.d2
  have hlt2 := hR.lt2
  have hsm := hR.sm
  obtain ⟨q, hq⟩ : ∃ q, w.heap.size = q := ⟨_, rfl⟩
  rw [hq] at hx0
  have hT0 : TI s (fun k => K k ∨ k = q) W0 := HT.grow hT hN0 (fun k hk => by rcases hk with h | h; exact .inl h; exact .inr (by omega))
  have hK0 : KK (fun k => K k ∨ k = q) D B1 B2 B3 W0 := ⟨fun k h => .inl (hK.d k h), .inl hK.b1, .inl hK.b2, .inl hK.b3, fun k h => by rcases h with h | h; have := hK.lt k h; omega; omega⟩
  have hqB : q ≠ B2 := by omega
  have hFB : ∀ w', Fr (fun k => k = B2) W0 w' → Fr (fun k => ¬ K k ∨ k = B2) w w' := fun w' hF => hN0.any.trans (hF.mono (fun k hk => .inl (.inr hk)))
  have hFT : ∀ w' w'', Fr (fun k => ¬ (K k ∨ k = q)) w' w'' → Fr (fun k => ¬ K k ∨ k = B2) w' w'' := fun w' w'' hF => hF.mono (fun k hk => .inl (.inl (fun h => hk (.inl h))))
  have hkeep : ∀ {s' w1 w2}, TI s' (fun k => K k ∨ k = q) w1 → Fr (fun k => k = B2) w1 w2 → TI s' (fun k => K k ∨ k = q) w2 := fun h f => HT.keep h f (fun k hk => by subst hk; exact ⟨.inl hK.b2, hd2⟩)
  have hlen : (b.drop i).length = b.length - i := by simp
  have hle := hR.le
  by_cases h2 : b.length < i + 2
  · refine sm_short _ (fun w' => Nw w w') B1 B2 B3 b.length q low ty v w W0 hW0 hq i hx0 ?_ ?_
    · refine (place_any hR0).mono ?_
      rintro e w1 ⟨rfl, rfl⟩
      refine ⟨rfl, hx0, ?_⟩
      refine (take_no hR0 2 (by omega)).mono ?_
      rintro e w2 ⟨rfl, rfl⟩
      exact ⟨rfl, hx0, hN0⟩
    · intro w' hF
      refine ⟨hF.any, ?_⟩
      have hl2 : (b.drop i).length < 2 := by omega
      generalize b.drop i = r at hl2
      unfold matchS
      match r, hl2 with
      | [], _ => exact ⟨rfl, by decide⟩
      | [x], _ => exact ⟨rfl, by decide⟩
      | x :: y :: r, h => simp at h; omega
  · have hx : i < b.length := by omega
    have hy : i + 1 < b.length := by omega
    have hdr : b.drop i = b[i] :: b[i + 1] :: b.drop (i + 2) := by rw [List.drop_eq_getElem_cons hx, List.drop_eq_getElem_cons hy]
    have hxl := b[i].isLt
    have hyl := b[i + 1].isLt
    have HTWO : ∀ R : World → Prop, (∀ w2, Fr (fun k => k = B2) W0 w2 → Rds D B1 B2 B3 a c b (i + 2) w2 → R w2) → Hid (Two q B1 B2 B3 b.length i b[i].toNat b[i + 1].toNat W0 R) := by
      intro R hR2
      refine (place_any hR0).mono ?_
      rintro e w1 ⟨rfl, rfl⟩
      refine ⟨rfl, hx0, ?_⟩
      refine (take_yes hR0 hb 2 (by omega)).mono ?_
      rintro e w2 ⟨g, o, d, rfl, hd, hd', hg, hrd, hRr, hF⟩
      refine ⟨g, o, d, rfl, ?_, ?_, hx0.kept hF hqB, hR2 _ hF hRr⟩
      · have := hrd.at 0 b[i] (by rw [hdr]; rfl)
        rw [Nat.add_zero] at this; exact this
      · exact hrd.at 1 b[i + 1] (by rw [hdr]; rfl)
    generalize hX : b[i].toNat = X at *
    generalize hY : b[i + 1].toNat = Y at *
    have hM : matchS T b.length low (b.drop i) s = if X + 256 * Y = 0 ∨ T.reaches s (X + 256 * Y) = false then .bad i 30 else match num low (b.drop (i + 2)) with
      | none => .bad b.length 4
      | some (n, k) => if T.room s (n + 4) = false then .bad i 32 else .ok ((b.drop (i + 2)).drop k) (T.mat s (X + 256 * Y) (n + 4)) := by
      have e : b.length - (b[i] :: b[i + 1] :: b.drop (i + 2)).length = i := by simp; omega
      rw [hdr]
      simp only [matchS, hX, hY, e]
      by_cases hc : X + 256 * Y = 0 ∨ T.reaches s (X + 256 * Y) = false
      · rw [if_pos hc, if_pos hc]
      · rw [if_neg hc, if_neg hc]
        cases num low (b.drop (i + 2)) <;> rfl
    rw [hM]
    by_cases h0 : X + 256 * Y = 0
    · obtain ⟨rfl, rfl⟩ : X = 0 ∧ Y = 0 := by omega
      refine sm_zero _ (fun w' => Fr (fun k => ¬ K k ∨ k = B2) w w') B1 B2 B3 b.length q low ty v w W0 hW0 hq i hx0 (HTWO _ (fun w2 hF _ => hFB _ hF)) ?_
      intro w' w'' hF hN
      refine ⟨hF.trans hN.any, ?_⟩
      simp only [Nat.mul_zero, Nat.add_zero, true_or, if_true]
      exact ⟨rfl, by decide⟩
    · by_cases hre : T.reaches s (X + 256 * Y) = true
      · have hcond : ¬ (X + 256 * Y = 0 ∨ T.reaches s (X + 256 * Y) = false) := fun h => by rcases h with h | h; exact h0 h; rw [hre] at h; cases h
        rw [if_neg hcond]
        have HRE : ∀ w2 V, Fr (fun k => k = B2) W0 w2 → Nw w2 V → Calls Try.prog fC #[v, .int .i64 (X + 256 * Y : Nat)] V fun e w3 => e = .returned (.bool true) ∧ Nw w2 w3 := by
          intro w2 V hF hN
          refine (HT.reaches (X + 256 * Y) (HT.grow (hkeep hT0 hF) hN (fun k hk => .inl hk)) (by omega)).mono ?_
          rintro e w3 ⟨rfl, hN3⟩
          exact ⟨by rw [hre], hN.trans hN3⟩
        cases hn : num low (b.drop (i + 2)) with
        | none =>
          refine sm_cut _ (fun w' => Fr (fun k => ¬ K k ∨ k = B2) w w') B1 B2 B3 b.length q low ty v w W0 hW0 hq i X Y hxl hyl h0 fC HT.mC HT.eC hx0 (HTWO _ (fun w2 hF hR2 V hV => ?_)) ?_
          · refine (HRE w2 V hF hV).mono ?_
            rintro e w3 ⟨rfl, hN3⟩
            have hx3 := (hx0.kept hF hqB).kept hN3 (fun h => h)
            refine ⟨rfl, hx3, ?_⟩
            refine (number_any (hR2.nw hN3) low hl).mono ?_
            rw [hn]
            rintro e w4 ⟨rfl, hF4⟩
            exact ⟨rfl, hx3.kept hF4 hqB, ((hFB _ hF).trans hN3.any).trans (hF4.mono (fun k hk => .inl (.inr hk)))⟩
          · intro w' hF
            exact ⟨hF, rfl, by decide⟩
        | some p =>
          obtain ⟨n, k⟩ := p
          have hnk := num_le hn hl
          have hlen2 : (b.drop (i + 2)).length = b.length - (i + 2) := by simp
          rw [hlen2] at hnk
          by_cases hroom : T.room s (n + 4) = true
          · refine sm_ok _ (fun w' => Fr (fun k => ¬ K k ∨ k = B2) w w' ∧ Rds D B1 B2 B3 a c b (i + 2 + k) w' ∧ TI (T.mat s (X + 256 * Y) (n + 4)) K w') B1 B2 B3 b.length q low ty v w W0 hW0 hq i X Y n hxl hyl h0 (by omega) fC fR fM HT.mC HT.eC HT.mR HT.eR HT.mM HT.eM hx0 (HTWO _ (fun w2 hF hR2 V hV => ?_)) ?_
            · refine (HRE w2 V hF hV).mono ?_
              rintro e w3 ⟨rfl, hN3⟩
              have hx3 := (hx0.kept hF hqB).kept hN3 (fun h => h)
              have hT3 := HT.grow (hkeep hT0 hF) hN3 (fun k hk => .inl hk)
              refine ⟨rfl, hx3, ?_⟩
              refine (number_any (hR2.nw hN3) low hl).mono ?_
              rw [hn]
              rintro e w4 ⟨rfl, hR4, hF4⟩
              have hx4 := hx3.kept hF4 hqB
              have hT4 := hkeep hT3 hF4
              refine ⟨rfl, hx4, ?_⟩
              intro z hz
              subst hz
              have := HT.room (n + 4) hT4 (by omega)
              rw [show (((n + 4 : Nat)) : Int) = (n : Int) + 4 by omega] at this
              refine this.mono ?_
              rintro e w5 ⟨rfl, hN5⟩
              refine ⟨by rw [hroom], hx4.kept hN5 (fun h => h), ?_⟩
              intro z hz
              subst hz
              have hT5 := HT.grow hT4 hN5 (fun k hk => .inl hk)
              have hK5 := hK0.grow (w' := w5) (Nat.le_trans hF.size (Nat.le_trans hN3.size (Nat.le_trans hF4.size hN5.size)))
              have := HT.mat (X + 256 * Y) (n + 4) hT5 hK5.d hK5.lt (by omega) (by omega) (by omega) hre hroom
              rw [show (((n + 4 : Nat)) : Int) = (n : Int) + 4 by omega] at this
              refine this.mono ?_
              rintro e w6 ⟨hr6, hT6, hF6⟩
              exact ⟨hr6, ((((hFB _ hF).trans hN3.any).trans (hF4.mono (fun k hk => .inl (.inr hk)))).trans hN5.any).trans (hFT _ _ hF6), (hR4.nw hN5).taken hK0 hF6, HT.grow hT6 (Fr.refl _ _) (fun k hk => .inl (.inl hk))⟩
            · rintro w' ⟨hF, hR', hT'⟩
              refine ⟨hF, ?_⟩
              simp only [hroom, Bool.true_eq_false, if_false]
              exact ⟨trivial, i + 2 + k, by rw [List.drop_drop], hR', hT'⟩
          · have hroom' : T.room s (n + 4) = false := by simpa using hroom
            refine sm_full _ (fun w' => Fr (fun k => ¬ K k ∨ k = B2) w w') B1 B2 B3 b.length q low ty v w W0 hW0 hq i X Y n hxl hyl h0 (by omega) fC fR HT.mC HT.eC HT.mR HT.eR hx0 (HTWO _ (fun w2 hF hR2 V hV => ?_)) ?_
            · refine (HRE w2 V hF hV).mono ?_
              rintro e w3 ⟨rfl, hN3⟩
              have hx3 := (hx0.kept hF hqB).kept hN3 (fun h => h)
              have hT3 := HT.grow (hkeep hT0 hF) hN3 (fun k hk => .inl hk)
              refine ⟨rfl, hx3, ?_⟩
              refine (number_any (hR2.nw hN3) low hl).mono ?_
              rw [hn]
              rintro e w4 ⟨rfl, hR4, hF4⟩
              have hx4 := hx3.kept hF4 hqB
              refine ⟨rfl, hx4, ?_⟩
              intro z hz
              subst hz
              have := HT.room (n + 4) (hkeep hT3 hF4) (by omega)
              rw [show (((n + 4 : Nat)) : Int) = (n : Int) + 4 by omega] at this
              refine this.mono ?_
              rintro e w5 ⟨rfl, hN5⟩
              exact ⟨by rw [hroom'], hx4.kept hN5 (fun h => h), (((hFB _ hF).trans hN3.any).trans (hF4.mono (fun k hk => .inl (.inr hk)))).trans hN5.any⟩
            · intro w' hF
              refine ⟨hF, ?_⟩
              simp only [hroom', if_true]
              exact ⟨rfl, by decide⟩
      · have hre' : T.reaches s (X + 256 * Y) = false := by simpa using hre
        refine sm_far _ (fun w' => Fr (fun k => ¬ K k ∨ k = B2) w w') B1 B2 B3 b.length q low ty v w W0 hW0 hq i X Y hxl hyl h0 fC HT.mC HT.eC hx0 (HTWO _ (fun w2 hF hR2 V hV => ?_)) ?_
        · refine (HT.reaches (X + 256 * Y) (HT.grow (hkeep hT0 hF) hV (fun k hk => .inl hk)) (by omega)).mono ?_
          rintro e w3 ⟨rfl, hN3⟩
          exact ⟨by rw [hre'], ((hFB _ hF).trans hV.any).trans hN3.any⟩
        · intro w' hF
          refine ⟨hF, ?_⟩
          simp only [hre', or_true, if_true]
          exact ⟨rfl, by decide⟩
end Go.Proofs.Ytdeefemeiggolaa

namespace Go.Proofs.Ytdeefemeiggolaa
open Go.RowKit
set_option linter.unusedVariables false
set_option linter.unusedSectionVars false
def KS (D B1 B2 B3 Bs : Nat) (k : Nat) : Prop := k < D ∨ k = B1 ∨ k = B2 ∨ k = B3 ∨ k = Bs
/-- How the scan stands at place i, when s was taken. -/
structure SJ {σ : Type} (TI : σ → (Nat → Prop) → World → Prop) (D B1 B2 B3 Bs : Nat) (a : Option Addr) (c : Nat) (b : List By) (w : World) (i : Nat) (s : σ) (wr : World) : Prop where
  rd : Rds D B1 B2 B3 a c b i wr
  ti : TI s (KS D B1 B2 B3 Bs) wr
  kk : KK (KS D B1 B2 B3 Bs) D B1 B2 B3 wr
  bx : Bx Bs B1 B2 B3 b.length wr
  fr : Fr (fun k => D ≤ k) w wr
  nb : Bs ≠ B2
/-- What the scan answers. -/
def Scand {σ : Type} (TI : σ → (Nat → Prop) → World → Prop) (D : Nat) (r : Rs σ) (w : World) (e : Ending) (w' : World) : Prop :=
  Fr (fun k => D ≤ k) w w' ∧ match r with
  | .bad x y => e = .returned (.tuple #[.int .i64 x, .int .i64 y]) ∧ y ≠ 0
  | .good s => e = .returned (.tuple #[.int .i64 0, .int .i64 0]) ∧ TI s (fun k => k < D) w'
section
variable {σ : Type} {T : Tk σ} {D : Nat} {ty : TypeId} {v : Value} {fR fP fC fM fE : Nat} {TI : σ → (Nat → Prop) → World → Prop} (HT : Tkr T D ty v fR fP fC fM fE TI) {B1 B2 B3 Bs : Nat} {a : Option Addr} {c : Nat} {b : List By} {w : World} {i : Nat} {s : σ} {wr : World}
theorem SJ.frame (h : SJ TI D B1 B2 B3 Bs a c b w i s wr) {w' : World} (hF : Fr (fun k => ¬ KS D B1 B2 B3 Bs k ∨ k = B2) wr w') : Bx Bs B1 B2 B3 b.length w' ∧ Fr (fun k => D ≤ k) wr w' ∧ Fr (fun k => D ≤ k) w w' := by
  have hD : ∀ k, ¬ KS D B1 B2 B3 Bs k ∨ k = B2 → D ≤ k := fun k hk => by
    rcases hk with hk | hk
    · by_cases hd : D ≤ k
      · exact hd
      · exact absurd (.inl (by omega)) hk
    · subst hk; exact h.rd.d2
  have hF' := hF.mono (Y := fun k => D ≤ k) (fun k hk => .inl (hD k hk))
  refine ⟨h.bx.kept hF (fun hk => ?_), hF', h.fr.trans hF'⟩
  rcases hk with hk | hk
  · exact hk (.inr (.inr (.inr (.inr rfl))))
  · exact h.nb hk
include HT
theorem SJ.nw (h : SJ TI D B1 B2 B3 Bs a c b w i s wr) {V : World} (hV : Nw wr V) : SJ TI D B1 B2 B3 Bs a c b w i s V :=
  ⟨h.rd.nw hV, HT.grow h.ti hV (fun k hk => .inl hk), h.kk.grow hV.size, h.bx.kept hV (fun h => h), h.fr.trans hV.any, h.nb⟩
theorem SJ.took (h : SJ TI D B1 B2 B3 Bs a c b w i s wr) {w1 : World} {j : Nat} (hR : Rds D B1 B2 B3 a c b j w1) (hF : Fr (fun k => k = B2) wr w1) : SJ TI D B1 B2 B3 Bs a c b w j s w1 := by
  obtain ⟨k1, k2, k3⟩ := h.frame (hF.mono (fun k hk => .inl (.inr hk)))
  exact ⟨hR, HT.keep h.ti hF (fun k hk => by subst hk; exact ⟨h.kk.b2, h.rd.d2⟩), h.kk.grow hF.size, k1, k3, h.nb⟩
theorem SJ.ok (h : SJ TI D B1 B2 B3 Bs a c b w i s wr) {w' : World} {j : Nat} {s1 : σ} (hF : Fr (fun k => ¬ KS D B1 B2 B3 Bs k ∨ k = B2) wr w') (hR : Rds D B1 B2 B3 a c b j w') (hT : TI s1 (KS D B1 B2 B3 Bs) w') : SJ TI D B1 B2 B3 Bs a c b w j s1 w' := by
  obtain ⟨k1, k2, k3⟩ := h.frame hF
  exact ⟨hR, hT, h.kk.grow hF.size, k1, k3, h.nb⟩
/-- The token. -/
theorem SJ.token (h : SJ TI D B1 B2 B3 Bs a c b w i s wr) (hi : i < b.length) (R : World → Nat → Nat → Prop) (hR : ∀ w1 g q, SJ TI D B1 B2 B3 Bs a c b w (i + 1) s w1 → g < D → w1.cell? ⟨g, q, none⟩ = some (.int .u8 b[i].toNat) → R w1 g q) :
    Hid (Calls Try.prog 102 #[.int .i64 1, .pointer (some ⟨B1, 0, none⟩), .pointer (some ⟨B2, 0, none⟩)] wr fun e w1 => ∃ g q d, e = .returned (.tuple #[.slice (some ⟨g, q, none⟩) 1 d, .bool true]) ∧ w1.cell? ⟨g, q, none⟩ = some (.int .u8 b[i].toNat) ∧ Bx Bs B1 B2 B3 b.length w1 ∧ Hid (R w1 g q)) := by
  show Calls _ _ _ _ _
  have hbne : b ≠ [] := by intro h; rw [h] at hi; simp at hi
  refine (take_yes h.rd hbne 1 (by omega)).mono ?_
  rintro e w1 ⟨g, q, d, rfl, hd, hd2, hg, hrd, hR1, hF1⟩
  have hc : w1.cell? ⟨g, q, none⟩ = some (.int .u8 b[i].toNat) := by
    have := hrd.at 0 b[i] (by rw [List.drop_eq_getElem_cons hi]; rfl)
    rw [Nat.add_zero] at this; exact this
  have h1 := h.took HT hR1 hF1
  exact ⟨g, q, d, rfl, hc, h1.bx, hR w1 g q h1 hg hc⟩
theorem SJ.plain (h : SJ TI D B1 B2 B3 Bs a c b w i s wr) (hb : b ≠ []) (low : Nat) (hl : low ≤ 15) (z : Int) (hz : z = low) :
    Calls Try.prog 100 #[.agg (rdsV B1 B2 B3 b.length).toArray, .iface ty v, .int .u8 z] wr fun e w' => Fr (fun k => D ≤ k) wr w' ∧ Bx Bs B1 B2 B3 b.length w' ∧ match plainS T b.length low (b.drop i) s with
      | .bad x y => e = .returned (.tuple #[.int .i64 x, .int .i64 y]) ∧ y ≠ 0
      | .ok r s1 => e = .returned (.tuple #[.int .i64 0, .int .i64 0]) ∧ ∃ j, r = b.drop j ∧ SJ TI D B1 B2 B3 Bs a c b w j s1 w' := by
  subst hz
  refine (scanPlain_any HT h.rd h.ti h.kk hb low hl).mono ?_
  rintro e w' ⟨hF, hm⟩
  obtain ⟨k1, k2, k3⟩ := h.frame hF
  refine ⟨k2, k1, ?_⟩
  cases hp : plainS T b.length low (b.drop i) s with
  | bad x y => rw [hp] at hm; exact hm
  | ok r s1 =>
    rw [hp] at hm
    obtain ⟨h1, j, h2, h3, h4⟩ := hm
    exact ⟨h1, j, h2, h.ok HT hF h3 h4⟩
theorem SJ.mat (h : SJ TI D B1 B2 B3 Bs a c b w i s wr) (hb : b ≠ []) (low : Nat) (hl : low ≤ 15) (z : Int) (hz : z = low) :
    Calls Try.prog 101 #[.agg (rdsV B1 B2 B3 b.length).toArray, .iface ty v, .int .u8 z] wr fun e w' => Fr (fun k => D ≤ k) wr w' ∧ Bx Bs B1 B2 B3 b.length w' ∧ match matchS T b.length low (b.drop i) s with
      | .bad x y => e = .returned (.tuple #[.int .i64 x, .int .i64 y]) ∧ y ≠ 0
      | .ok r s1 => e = .returned (.tuple #[.int .i64 0, .int .i64 0]) ∧ ∃ j, r = b.drop j ∧ SJ TI D B1 B2 B3 Bs a c b w j s1 w' := by
  subst hz
  refine (scanMatch_any HT h.rd h.ti h.kk hb low hl).mono ?_
  rintro e w' ⟨hF, hm⟩
  obtain ⟨k1, k2, k3⟩ := h.frame hF
  refine ⟨k2, k1, ?_⟩
  cases hp : matchS T b.length low (b.drop i) s with
  | bad x y => rw [hp] at hm; exact hm
  | ok r s1 =>
    rw [hp] at hm
    obtain ⟨h1, j, h2, h3, h4⟩ := hm
    exact ⟨h1, j, h2, h.ok HT hF h3 h4⟩
end
end Go.Proofs.Ytdeefemeiggolaa

namespace Go.Proofs.Ytdeefemeiggolaa
open Go.RowKit
set_option linter.unusedVariables false
theorem and15 (t : Nat) (h : t < 256) : bits .and .u8 (t : Int) 15 = ((t % 16 : Nat) : Int) := by
  have := u8_and_nat t 15 h (by decide)
  rw [show ((15 : Nat) : Int) = 15 from rfl] at this
  rw [this]
  congr 1
  exact Nat.and_two_pow_sub_one_eq_mod t 4
set_option maxHeartbeats 16000000 in
set_option maxRecDepth 100000 in
theorem scan_any {σ : Type} {T : Tk σ} {D : Nat} {ty : TypeId} {v : Value} {fR fP fC fM fE : Nat} {TI : σ → (Nat → Prop) → World → Prop} (HT : Tkr T D ty v fR fP fC fM fE TI) (a : Option Addr) (c : Nat) (b : List By) (s0 : σ) (w : World) (hD : D ≤ w.heap.size) (hb : b ≠ [] → ∃ g o, a = some ⟨g, o, none⟩ ∧ g < D ∧ Rd g o b w) (hc : b.length ≤ c) (hc2 : c < 9223372036854775808) (hs : b.length ≤ 140737488351232) (hT : TI s0 (fun k => k < D) w) :
    Calls Try.prog 98 #[.slice a b.length c, .iface ty v] w (Scand TI D (scanS T b.length b s0) w) := by
  obtain ⟨P, hP⟩ : ∃ P, P = Scand TI D (scanS T b.length b s0) w := ⟨_, rfl⟩
  rw [← hP]
  have HP : Hid (P = Scand TI D (scanS T b.length b s0) w) := hP
  clear hP
  have HRO : Hid (Calls Try.prog 99 #[.slice a b.length c] w fun e w' => ∃ B1 B2 B3, e = .returned (.agg #[.int .i64 b.length, .func (.func 104) #[] #[.pointer (some ⟨B2, 0, none⟩)], .func (.func 102) #[] #[.pointer (some ⟨B1, 0, none⟩), .pointer (some ⟨B2, 0, none⟩)], .func (.func 103) #[] #[.pointer (some ⟨B3, 0, none⟩)]]) ∧
      Hid (SJ TI D B1 B2 B3 w'.heap.size a c b w 0 s0 (w'.alloc (.cells (rdsV B1 B2 B3 b.length).toArray 160)))) := by
    refine (readsOf_any D a c b w hD hb hc hc2 hs).mono ?_
    rintro e w' ⟨B1, B2, B3, rfl, hN, hR, h1, h2, h3⟩
    have hN2 : Nw w' (w'.alloc (.cells (rdsV B1 B2 B3 b.length).toArray 160)) := (Fr.refl _ _).alloc _
    have hl1 : B1 < w'.heap.size := World.block_lt_of_cell? _ _ hR.c1
    have hl2 := hR.lt2
    have hl3 : B3 < w'.heap.size := World.block_lt_of_cell? _ _ hR.c3
    have hsz : (w'.alloc (.cells (rdsV B1 B2 B3 b.length).toArray 160)).heap.size = w'.heap.size + 1 := by simp
    refine ⟨B1, B2, B3, rfl, hR.nw hN2, HT.grow hT (hN.trans hN2) (fun k hk => ?_), ⟨fun k hk => .inl hk, .inr (.inl rfl), .inr (.inr (.inl rfl)), .inr (.inr (.inr (.inl rfl))), fun k hk => ?_⟩, Bx.new _ _ _ _ _, (hN.trans hN2).any, by omega⟩
    · rcases hk with hk | hk | hk | hk | hk
      · exact .inl hk
      all_goals exact .inr (by have := hN.size; omega)
    · have := hN.size
      rcases hk with hk | hk | hk | hk | hk <;> omega
  clear hb hT
  go_enter Try.func98, Try.ntmps98
  go_wp2_with (first | (go_at_call 99; with_reducible refine (HRO.out).mono ?_; rintro e w' ⟨B1, B2, B3, rfl, HI0⟩))
  generalize w'.heap.size = Bs at *
  clear HRO
  go_loopg [7] (b.length + 1) (fun kx x wr => True ∧ ∃ (i : Nat) (s : σ), b.length + 1 - i ≤ kx ∧ Hid (SJ TI D B1 B2 B3 Bs a c b w i s wr ∧ scanS T b.length b s0 = scanS T b.length (b.drop i) s))
  case atStart => exact ⟨trivial, 0, s0, by omega, HI0.out, rfl⟩
  case round =>
    obtain ⟨_, i, s, hkx, HI⟩ := hrel
    clear HI0
    obtain ⟨hJ, hsc⟩ := HI.out
    have hle := hJ.rd.le
    obtain ⟨x0, x1, x2, x3⟩ := hJ.bx
    have HPL : Hid (Calls Try.prog 104 #[.pointer (some ⟨B2, 0, none⟩)] wr fun e w' => e = .returned (.int .i64 i) ∧ w' = wr) := place_any hJ.rd
    by_cases hlt : i < b.length
    · have hbne : b ≠ [] := by intro h; rw [h] at hlt; simp at hlt
      have hx := b[i].isLt
      have hdr : b.drop i = b[i] :: b.drop (i + 1) := List.drop_eq_getElem_cons hlt
      have hdl : (b.drop (i + 1)).length + 1 = b.length - i := by simp; omega
      have hsc' := hsc
      rw [hdr, scanS_cons] at hsc'
      cases hp : plainS T b.length (b[i].toNat / 16) (b.drop (i + 1)) s with
      | bad x y =>
        simp only [hp] at hsc'
        have HTK := hJ.token HT hlt (fun w1 g q => ∀ V, Nw w1 V → ∀ z : Int, z = ((b[i].toNat / 16 : Nat) : Int) → Calls Try.prog 100 #[.agg #[.int .i64 b.length, .func (.func 104) #[] #[.pointer (some ⟨B2, 0, none⟩)], .func (.func 102) #[] #[.pointer (some ⟨B1, 0, none⟩), .pointer (some ⟨B2, 0, none⟩)], .func (.func 103) #[] #[.pointer (some ⟨B3, 0, none⟩)]], .iface ty v, .int .u8 z] V fun e w2 => e = .returned (.tuple #[.int .i64 x, .int .i64 y]) ∧ Bx Bs B1 B2 B3 b.length w2 ∧ w2.cell? ⟨g, q, none⟩ = some (.int .u8 b[i].toNat) ∧ (¬ (y : Int) = 0) ∧ Hid (P (.returned (.tuple #[.int .i64 x, .int .i64 y])) w2)) (fun w1 g q h1 hg hcell V hV z hz => by
          refine ((h1.nw HT hV).plain HT hbne (b[i].toNat / 16) (by omega) z hz).mono ?_
          rintro e w2 ⟨hF, hB, hm⟩
          rw [hp] at hm
          obtain ⟨rfl, hy⟩ := hm
          refine ⟨rfl, hB, hF.cellv (hV.cell hcell) (by show ¬ D ≤ g; omega), by omega, ?_⟩
          show P _ _
          rw [HP.out]
          refine ⟨(h1.nw HT hV).fr.trans hF, ?_⟩
          rw [hsc']
          exact ⟨rfl, hy⟩)
        clear hsc hsc' HI hJ HP hp hdr hdl
        generalize b[i].toNat = tok at *
        go_wp2_with (first
          | (go_at_call 104; with_reducible refine (HPL.out).mono ?_; rintro e w0 ⟨rfl, rfl⟩)
          | (go_at_call 102; with_reducible refine (HTK.out).mono ?_; rintro e w1 ⟨g, q, d, rfl, hcell, ⟨y0, y1, y2, y3⟩, HSP⟩))
        go_region_held3 (fun w' => w'.cell? ⟨Bs, 0, none⟩ = some (.int .i64 b.length) ∧ w'.cell? ⟨Bs, 1, none⟩ = some (.func (.func 104) #[] #[.pointer (some ⟨B2, 0, none⟩)]) ∧ w'.cell? ⟨Bs, 2, none⟩ = some (.func (.func 102) #[] #[.pointer (some ⟨B1, 0, none⟩), .pointer (some ⟨B2, 0, none⟩)]) ∧ w'.cell? ⟨Bs, 3, none⟩ = some (.func (.func 103) #[] #[.pointer (some ⟨B3, 0, none⟩)]) ∧ w'.cell? ⟨g, q, none⟩ = some (.int .u8 tok)) (first | exact ⟨y0, y1, y2, y3, hcell⟩ | exact ⟨z0, z1, z2, z3, hcell2⟩)
          (first | (go_at_call 100; with_reducible refine (HSP.out _ (Fr.refl _ _).drew _ (by first | rfl | omega)).mono ?_; rintro e w2 ⟨rfl, ⟨z0, z1, z2, z3⟩, hcell2, hy, HF⟩))
        all_goals go_wp2
        all_goals exact HF.out
      | ok r3 s1 =>
       simp only [hp] at hsc'
       by_cases hr3 : r3 = []
       · rw [if_pos hr3] at hsc'
         by_cases hlow : b[i].toNat % 16 = 0
         · rw [if_pos hlow] at hsc'
           have HTK := hJ.token HT hlt (fun w1 g q => ∀ V, Nw w1 V → ∀ z : Int, z = ((b[i].toNat / 16 : Nat) : Int) → Calls Try.prog 100 #[.agg #[.int .i64 b.length, .func (.func 104) #[] #[.pointer (some ⟨B2, 0, none⟩)], .func (.func 102) #[] #[.pointer (some ⟨B1, 0, none⟩), .pointer (some ⟨B2, 0, none⟩)], .func (.func 103) #[] #[.pointer (some ⟨B3, 0, none⟩)]], .iface ty v, .int .u8 z] V fun e w2 => e = .returned (.tuple #[.int .i64 0, .int .i64 0]) ∧ Bx Bs B1 B2 B3 b.length w2 ∧ w2.cell? ⟨g, q, none⟩ = some (.int .u8 b[i].toNat) ∧ ∃ j : Nat, (j : Int) = (b.length : Int) ∧ Hid (∀ V, Nw w2 V → Calls Try.prog 104 #[.pointer (some ⟨B2, 0, none⟩)] V fun e w3 => e = .returned (.int .i64 j) ∧ w3 = V) ∧ Hid (∀ V, Nw w2 V → Calls Try.prog fE #[v] V fun e w3 => (∃ r, e = .returned r) ∧ Hid (P (.returned (.tuple #[.int .i64 0, .int .i64 0])) w3))) (fun w1 g q h1 hg hcell V hV z hz => by
             refine ((h1.nw HT hV).plain HT hbne (b[i].toNat / 16) (by omega) z hz).mono ?_
             rintro e w2 ⟨hF, hB, hm⟩
             rw [hp] at hm
             obtain ⟨rfl, j, hj, h2⟩ := hm
             have hjl := h2.rd.le
             have hrl : r3.length = b.length - j := by rw [hj]; simp
             refine ⟨rfl, hB, hF.cellv (hV.cell hcell) (by show ¬ D ≤ g; omega), j, ?_, fun V hV => place_any (h2.rd.nw hV), ?_⟩
             · rw [hr3] at hrl; simp at hrl; omega
             · intro V hV
               have h3 := h2.nw HT hV
               refine (HT.fin h3.ti h3.kk.d h3.kk.lt).mono ?_
               rintro e w3 ⟨hr, hT3, hF3⟩
               refine ⟨hr, ?_⟩
               show P _ _
               rw [HP.out]
               refine ⟨h3.fr.trans (hF3.mono (fun k hk => .inl ?_)), ?_⟩
               · by_cases hd : D ≤ k
                 · exact hd
                 · exact absurd (.inl (by omega)) hk
               · rw [hsc']
                 exact ⟨rfl, HT.grow hT3 (Fr.refl _ _) (fun k hk => .inl (.inl hk))⟩)
           have hmE := HT.mE
           have heE := HT.eE
           have hand : bits .and .u8 ((b[i].toNat : Nat) : Int) 15 = ((b[i].toNat % 16 : Nat) : Int) := and15 _ hx
           clear hsc hsc' HI hJ HP hp hdr hdl
           rw [hlow] at hand
           clear hlow
           generalize b[i].toNat = tok at *
           go_wp2_with (first
             | (go_at_call 104; with_reducible refine (HPL.out).mono ?_; rintro e w0 ⟨rfl, rfl⟩)
             | (go_at_call 102; with_reducible refine (HTK.out).mono ?_; rintro e w1 ⟨g, q, d, rfl, hcell, ⟨y0, y1, y2, y3⟩, HSP⟩))
           go_region_held3 (fun w' => w'.cell? ⟨Bs, 0, none⟩ = some (.int .i64 b.length) ∧ w'.cell? ⟨Bs, 1, none⟩ = some (.func (.func 104) #[] #[.pointer (some ⟨B2, 0, none⟩)]) ∧ w'.cell? ⟨Bs, 2, none⟩ = some (.func (.func 102) #[] #[.pointer (some ⟨B1, 0, none⟩), .pointer (some ⟨B2, 0, none⟩)]) ∧ w'.cell? ⟨Bs, 3, none⟩ = some (.func (.func 103) #[] #[.pointer (some ⟨B3, 0, none⟩)]) ∧ w'.cell? ⟨g, q, none⟩ = some (.int .u8 tok)) (first | exact ⟨y0, y1, y2, y3, hcell⟩ | exact ⟨z0, z1, z2, z3, hcell2⟩)
             (first | (go_at_call 100; with_reducible refine (HSP.out _ (Fr.refl _ _).drew _ (by first | rfl | omega)).mono ?_; rintro e w2 ⟨rfl, ⟨z0, z1, z2, z3⟩, hcell2, j, hjj, HPL2, HQ⟩))
           clear HTK HPL HSP x0 x1 x2 x3 y0 y1 y2 y3 hcell
           go_wp2_with fail
           go_region_held3 (fun w' => w'.cell? ⟨Bs, 0, none⟩ = some (.int .i64 b.length) ∧ w'.cell? ⟨Bs, 1, none⟩ = some (.func (.func 104) #[] #[.pointer (some ⟨B2, 0, none⟩)]) ∧ w'.cell? ⟨Bs, 2, none⟩ = some (.func (.func 102) #[] #[.pointer (some ⟨B1, 0, none⟩), .pointer (some ⟨B2, 0, none⟩)]) ∧ w'.cell? ⟨Bs, 3, none⟩ = some (.func (.func 103) #[] #[.pointer (some ⟨B3, 0, none⟩)]) ∧ w'.cell? ⟨g, q, none⟩ = some (.int .u8 tok)) (first | exact ⟨z0, z1, z2, z3, hcell2⟩)
             (first | (go_at_call 104; with_reducible refine (HPL2.out _ (Fr.refl _ _).drew).mono ?_; rintro e w3 ⟨rfl, rfl⟩))
           go_wp2_with (first
             | (go_at_fn fE; with_reducible refine (HQ.out _ (by first | exact (Fr.refl _ _).drew | exact (Fr.refl _ _).drewN _ | exact Fr.refl _ _)).mono ?_; rintro e w4 ⟨⟨r4, rfl⟩, HF⟩))
           exact HF.out
         · rw [if_neg hlow] at hsc'
           have HTK := hJ.token HT hlt (fun w1 g q => ∀ V, Nw w1 V → ∀ z : Int, z = ((b[i].toNat / 16 : Nat) : Int) → Calls Try.prog 100 #[.agg #[.int .i64 b.length, .func (.func 104) #[] #[.pointer (some ⟨B2, 0, none⟩)], .func (.func 102) #[] #[.pointer (some ⟨B1, 0, none⟩), .pointer (some ⟨B2, 0, none⟩)], .func (.func 103) #[] #[.pointer (some ⟨B3, 0, none⟩)]], .iface ty v, .int .u8 z] V fun e w2 => e = .returned (.tuple #[.int .i64 0, .int .i64 0]) ∧ Bx Bs B1 B2 B3 b.length w2 ∧ w2.cell? ⟨g, q, none⟩ = some (.int .u8 b[i].toNat) ∧ ∃ j : Nat, (j : Int) = (b.length : Int) ∧ Hid (∀ V, Nw w2 V → Calls Try.prog 104 #[.pointer (some ⟨B2, 0, none⟩)] V fun e w3 => e = .returned (.int .i64 j) ∧ w3 = V) ∧ Hid (∀ V, Nw w2 V → P (.returned (.tuple #[.int .i64 i, .int .i64 31])) V)) (fun w1 g q h1 hg hcell V hV z hz => by
             refine ((h1.nw HT hV).plain HT hbne (b[i].toNat / 16) (by omega) z hz).mono ?_
             rintro e w2 ⟨hF, hB, hm⟩
             rw [hp] at hm
             obtain ⟨rfl, j, hj, h2⟩ := hm
             have hjl := h2.rd.le
             have hrl : r3.length = b.length - j := by rw [hj]; simp
             refine ⟨rfl, hB, hF.cellv (hV.cell hcell) (by show ¬ D ≤ g; omega), j, ?_, fun V hV => place_any (h2.rd.nw hV), ?_⟩
             · rw [hr3] at hrl; simp at hrl; omega
             · intro V hV
               have h3 := h2.nw HT hV
               rw [HP.out]
               refine ⟨h3.fr, ?_⟩
               rw [hsc', hdl, show b.length - (b.length - i) = i by omega]
               exact ⟨rfl, by decide⟩)
           have hlow' : ¬ ((b[i].toNat % 16 : Nat) : Int) = 0 := by omega
           clear hlow
           have hand : bits .and .u8 ((b[i].toNat : Nat) : Int) 15 = ((b[i].toNat % 16 : Nat) : Int) := and15 _ hx
           clear hsc hsc' HI hJ HP hp hdr hdl
           generalize hlo : b[i].toNat % 16 = lo at *
           generalize b[i].toNat = tok at *
           clear hlo
           go_wp2_with (first
             | (go_at_call 104; with_reducible refine (HPL.out).mono ?_; rintro e w0 ⟨rfl, rfl⟩)
             | (go_at_call 102; with_reducible refine (HTK.out).mono ?_; rintro e w1 ⟨g, q, d, rfl, hcell, ⟨y0, y1, y2, y3⟩, HSP⟩))
           go_region_held3 (fun w' => w'.cell? ⟨Bs, 0, none⟩ = some (.int .i64 b.length) ∧ w'.cell? ⟨Bs, 1, none⟩ = some (.func (.func 104) #[] #[.pointer (some ⟨B2, 0, none⟩)]) ∧ w'.cell? ⟨Bs, 2, none⟩ = some (.func (.func 102) #[] #[.pointer (some ⟨B1, 0, none⟩), .pointer (some ⟨B2, 0, none⟩)]) ∧ w'.cell? ⟨Bs, 3, none⟩ = some (.func (.func 103) #[] #[.pointer (some ⟨B3, 0, none⟩)]) ∧ w'.cell? ⟨g, q, none⟩ = some (.int .u8 tok)) (first | exact ⟨y0, y1, y2, y3, hcell⟩ | exact ⟨z0, z1, z2, z3, hcell2⟩)
             (first | (go_at_call 100; with_reducible refine (HSP.out _ (Fr.refl _ _).drew _ (by first | rfl | omega)).mono ?_; rintro e w2 ⟨rfl, ⟨z0, z1, z2, z3⟩, hcell2, j, hjj, HPL2, HQ⟩))
           clear HTK HPL HSP x0 x1 x2 x3 y0 y1 y2 y3 hcell
           go_wp2_with fail
           go_region_held3 (fun w' => w'.cell? ⟨Bs, 0, none⟩ = some (.int .i64 b.length) ∧ w'.cell? ⟨Bs, 1, none⟩ = some (.func (.func 104) #[] #[.pointer (some ⟨B2, 0, none⟩)]) ∧ w'.cell? ⟨Bs, 2, none⟩ = some (.func (.func 102) #[] #[.pointer (some ⟨B1, 0, none⟩), .pointer (some ⟨B2, 0, none⟩)]) ∧ w'.cell? ⟨Bs, 3, none⟩ = some (.func (.func 103) #[] #[.pointer (some ⟨B3, 0, none⟩)]) ∧ w'.cell? ⟨g, q, none⟩ = some (.int .u8 tok)) (first | exact ⟨z0, z1, z2, z3, hcell2⟩)
             (first | (go_at_call 104; with_reducible refine (HPL2.out _ (Fr.refl _ _).drew).mono ?_; rintro e w3 ⟨rfl, rfl⟩))
           go_wp2_with fail
           exact HQ.out _ (by first | exact (Fr.refl _ _).drew | exact (Fr.refl _ _).drewN _ | exact Fr.refl _ _)
       · rw [if_neg hr3] at hsc'
         cases hm : matchS T b.length (b[i].toNat % 16) r3 s1 with
         | bad x y =>
           simp only [hm] at hsc'
           have HTK := hJ.token HT hlt (fun w1 g q => ∀ V, Nw w1 V → ∀ z : Int, z = ((b[i].toNat / 16 : Nat) : Int) → Calls Try.prog 100 #[.agg #[.int .i64 b.length, .func (.func 104) #[] #[.pointer (some ⟨B2, 0, none⟩)], .func (.func 102) #[] #[.pointer (some ⟨B1, 0, none⟩), .pointer (some ⟨B2, 0, none⟩)], .func (.func 103) #[] #[.pointer (some ⟨B3, 0, none⟩)]], .iface ty v, .int .u8 z] V fun e w2 => e = .returned (.tuple #[.int .i64 0, .int .i64 0]) ∧ Bx Bs B1 B2 B3 b.length w2 ∧ w2.cell? ⟨g, q, none⟩ = some (.int .u8 b[i].toNat) ∧ ∃ j : Nat, (¬ (j : Int) = (b.length : Int)) ∧ Hid (∀ V, Nw w2 V → Calls Try.prog 104 #[.pointer (some ⟨B2, 0, none⟩)] V fun e w3 => e = .returned (.int .i64 j) ∧ w3 = V) ∧ Hid (∀ V, Nw w2 V → ∀ z : Int, z = ((b[i].toNat % 16 : Nat) : Int) → Calls Try.prog 101 #[.agg #[.int .i64 b.length, .func (.func 104) #[] #[.pointer (some ⟨B2, 0, none⟩)], .func (.func 102) #[] #[.pointer (some ⟨B1, 0, none⟩), .pointer (some ⟨B2, 0, none⟩)], .func (.func 103) #[] #[.pointer (some ⟨B3, 0, none⟩)]], .iface ty v, .int .u8 z] V fun e w3 => e = .returned (.tuple #[.int .i64 x, .int .i64 y]) ∧ (¬ (y : Int) = 0) ∧ Hid (P (.returned (.tuple #[.int .i64 x, .int .i64 y])) w3))) (fun w1 g q h1 hg hcell V hV z hz => by
             refine ((h1.nw HT hV).plain HT hbne (b[i].toNat / 16) (by omega) z hz).mono ?_
             rintro e w2 ⟨hF, hB, hm⟩
             rw [hp] at hm
             obtain ⟨rfl, j, hj, h2⟩ := hm
             have hjl := h2.rd.le
             have hrl : r3.length = b.length - j := by rw [hj]; simp
             refine ⟨rfl, hB, hF.cellv (hV.cell hcell) (by show ¬ D ≤ g; omega), j, ?_, fun V hV => place_any (h2.rd.nw hV), ?_⟩
             · intro h; apply hr3; rw [← List.length_eq_zero_iff]; omega
             · intro V hV z hz
               refine ((h2.nw HT hV).mat HT hbne (b[i].toNat % 16) (by omega) z hz).mono ?_
               rintro e w3 ⟨hF3, hB3, hm3⟩
               rw [← hj, hm] at hm3
               obtain ⟨rfl, hy⟩ := hm3
               refine ⟨rfl, by omega, ?_⟩
               show P _ _
               rw [HP.out]
               refine ⟨(h2.nw HT hV).fr.trans hF3, ?_⟩
               rw [hsc']
               exact ⟨rfl, hy⟩)
           have hand : bits .and .u8 ((b[i].toNat : Nat) : Int) 15 = ((b[i].toNat % 16 : Nat) : Int) := and15 _ hx
           clear hsc hsc' HI hJ HP hp hdr hdl hm
           generalize hlo : b[i].toNat % 16 = lo at *
           generalize b[i].toNat = tok at *
           clear hlo
           go_wp2_with (first
             | (go_at_call 104; with_reducible refine (HPL.out).mono ?_; rintro e w0 ⟨rfl, rfl⟩)
             | (go_at_call 102; with_reducible refine (HTK.out).mono ?_; rintro e w1 ⟨g, q, d, rfl, hcell, ⟨y0, y1, y2, y3⟩, HSP⟩))
           go_region_held3 (fun w' => w'.cell? ⟨Bs, 0, none⟩ = some (.int .i64 b.length) ∧ w'.cell? ⟨Bs, 1, none⟩ = some (.func (.func 104) #[] #[.pointer (some ⟨B2, 0, none⟩)]) ∧ w'.cell? ⟨Bs, 2, none⟩ = some (.func (.func 102) #[] #[.pointer (some ⟨B1, 0, none⟩), .pointer (some ⟨B2, 0, none⟩)]) ∧ w'.cell? ⟨Bs, 3, none⟩ = some (.func (.func 103) #[] #[.pointer (some ⟨B3, 0, none⟩)]) ∧ w'.cell? ⟨g, q, none⟩ = some (.int .u8 tok)) (first | exact ⟨y0, y1, y2, y3, hcell⟩ | exact ⟨z0, z1, z2, z3, hcell2⟩)
             (first | (go_at_call 100; with_reducible refine (HSP.out _ (Fr.refl _ _).drew _ (by first | rfl | omega)).mono ?_; rintro e w2 ⟨rfl, ⟨z0, z1, z2, z3⟩, hcell2, j, hjj, HPL2, HQ⟩))
           clear HTK HPL HSP x0 x1 x2 x3 y0 y1 y2 y3 hcell
           go_wp2_with fail
           go_region_held3 (fun w' => w'.cell? ⟨Bs, 0, none⟩ = some (.int .i64 b.length) ∧ w'.cell? ⟨Bs, 1, none⟩ = some (.func (.func 104) #[] #[.pointer (some ⟨B2, 0, none⟩)]) ∧ w'.cell? ⟨Bs, 2, none⟩ = some (.func (.func 102) #[] #[.pointer (some ⟨B1, 0, none⟩), .pointer (some ⟨B2, 0, none⟩)]) ∧ w'.cell? ⟨Bs, 3, none⟩ = some (.func (.func 103) #[] #[.pointer (some ⟨B3, 0, none⟩)]) ∧ w'.cell? ⟨g, q, none⟩ = some (.int .u8 tok)) (first | exact ⟨z0, z1, z2, z3, hcell2⟩)
             (first | (go_at_call 104; with_reducible refine (HPL2.out _ (Fr.refl _ _).drew).mono ?_; rintro e w3 ⟨rfl, rfl⟩))
           go_wp2_with (first
             | (go_at_call 101; with_reducible refine (HQ.out _ (by first | exact (Fr.refl _ _).drew | exact (Fr.refl _ _).drewN _ | exact Fr.refl _ _) _ rfl).mono ?_; rintro e w4 ⟨rfl, hy, HF⟩))
           exact HF.out
         | ok r5 s2 =>
           simp only [hm] at hsc'
           have HTK := hJ.token HT hlt (fun w1 g q => ∀ V, Nw w1 V → ∀ z : Int, z = ((b[i].toNat / 16 : Nat) : Int) → Calls Try.prog 100 #[.agg #[.int .i64 b.length, .func (.func 104) #[] #[.pointer (some ⟨B2, 0, none⟩)], .func (.func 102) #[] #[.pointer (some ⟨B1, 0, none⟩), .pointer (some ⟨B2, 0, none⟩)], .func (.func 103) #[] #[.pointer (some ⟨B3, 0, none⟩)]], .iface ty v, .int .u8 z] V fun e w2 => e = .returned (.tuple #[.int .i64 0, .int .i64 0]) ∧ Bx Bs B1 B2 B3 b.length w2 ∧ w2.cell? ⟨g, q, none⟩ = some (.int .u8 b[i].toNat) ∧ ∃ j : Nat, (¬ (j : Int) = (b.length : Int)) ∧ Hid (∀ V, Nw w2 V → Calls Try.prog 104 #[.pointer (some ⟨B2, 0, none⟩)] V fun e w3 => e = .returned (.int .i64 j) ∧ w3 = V) ∧ Hid (∀ V, Nw w2 V → ∀ z : Int, z = ((b[i].toNat % 16 : Nat) : Int) → Calls Try.prog 101 #[.agg #[.int .i64 b.length, .func (.func 104) #[] #[.pointer (some ⟨B2, 0, none⟩)], .func (.func 102) #[] #[.pointer (some ⟨B1, 0, none⟩), .pointer (some ⟨B2, 0, none⟩)], .func (.func 103) #[] #[.pointer (some ⟨B3, 0, none⟩)]], .iface ty v, .int .u8 z] V fun e w3 => e = .returned (.tuple #[.int .i64 0, .int .i64 0]) ∧ Hid (∃ k, i < k ∧ k ≤ b.length ∧ SJ TI D B1 B2 B3 Bs a c b w k s2 w3 ∧ scanS T b.length b s0 = scanS T b.length (b.drop k) s2))) (fun w1 g q h1 hg hcell V hV z hz => by
             refine ((h1.nw HT hV).plain HT hbne (b[i].toNat / 16) (by omega) z hz).mono ?_
             rintro e w2 ⟨hF, hB, hm⟩
             rw [hp] at hm
             obtain ⟨rfl, j, hj, h2⟩ := hm
             have hjl := h2.rd.le
             have hrl : r3.length = b.length - j := by rw [hj]; simp
             refine ⟨rfl, hB, hF.cellv (hV.cell hcell) (by show ¬ D ≤ g; omega), j, ?_, fun V hV => place_any (h2.rd.nw hV), ?_⟩
             · intro h; apply hr3; rw [← List.length_eq_zero_iff]; omega
             · intro V hV z hz
               refine ((h2.nw HT hV).mat HT hbne (b[i].toNat % 16) (by omega) z hz).mono ?_
               rintro e w3 ⟨hF3, hB3, hm3⟩
               rw [← hj, hm] at hm3
               obtain ⟨rfl, k, hk, h3⟩ := hm3
               have hl1 := plainS_le hp
               have hl2 := matchS_le hm
               have hl3 : r5.length = b.length - k := by rw [hk]; simp
               have hkl := h3.rd.le
               exact ⟨rfl, k, by omega, hkl, h3, by rw [hsc', hk]⟩)
           have hand : bits .and .u8 ((b[i].toNat : Nat) : Int) 15 = ((b[i].toNat % 16 : Nat) : Int) := and15 _ hx
           clear hsc hsc' HI hJ HP hp hdr hdl hm
           generalize hlo : b[i].toNat % 16 = lo at *
           generalize b[i].toNat = tok at *
           clear hlo
           go_wp2_with (first
             | (go_at_call 104; with_reducible refine (HPL.out).mono ?_; rintro e w0 ⟨rfl, rfl⟩)
             | (go_at_call 102; with_reducible refine (HTK.out).mono ?_; rintro e w1 ⟨g, q, d, rfl, hcell, ⟨y0, y1, y2, y3⟩, HSP⟩))
           go_region_held3 (fun w' => w'.cell? ⟨Bs, 0, none⟩ = some (.int .i64 b.length) ∧ w'.cell? ⟨Bs, 1, none⟩ = some (.func (.func 104) #[] #[.pointer (some ⟨B2, 0, none⟩)]) ∧ w'.cell? ⟨Bs, 2, none⟩ = some (.func (.func 102) #[] #[.pointer (some ⟨B1, 0, none⟩), .pointer (some ⟨B2, 0, none⟩)]) ∧ w'.cell? ⟨Bs, 3, none⟩ = some (.func (.func 103) #[] #[.pointer (some ⟨B3, 0, none⟩)]) ∧ w'.cell? ⟨g, q, none⟩ = some (.int .u8 tok)) (first | exact ⟨y0, y1, y2, y3, hcell⟩ | exact ⟨z0, z1, z2, z3, hcell2⟩)
             (first | (go_at_call 100; with_reducible refine (HSP.out _ (Fr.refl _ _).drew _ (by first | rfl | omega)).mono ?_; rintro e w2 ⟨rfl, ⟨z0, z1, z2, z3⟩, hcell2, j, hjj, HPL2, HQ⟩))
           clear HTK HPL HSP x0 x1 x2 x3 y0 y1 y2 y3 hcell
           go_wp2_with fail
           go_region_held3 (fun w' => w'.cell? ⟨Bs, 0, none⟩ = some (.int .i64 b.length) ∧ w'.cell? ⟨Bs, 1, none⟩ = some (.func (.func 104) #[] #[.pointer (some ⟨B2, 0, none⟩)]) ∧ w'.cell? ⟨Bs, 2, none⟩ = some (.func (.func 102) #[] #[.pointer (some ⟨B1, 0, none⟩), .pointer (some ⟨B2, 0, none⟩)]) ∧ w'.cell? ⟨Bs, 3, none⟩ = some (.func (.func 103) #[] #[.pointer (some ⟨B3, 0, none⟩)]) ∧ w'.cell? ⟨g, q, none⟩ = some (.int .u8 tok)) (first | exact ⟨z0, z1, z2, z3, hcell2⟩)
             (first | (go_at_call 104; with_reducible refine (HPL2.out _ (Fr.refl _ _).drew).mono ?_; rintro e w3 ⟨rfl, rfl⟩))
           go_wp2_with (first
             | (go_at_call 101; with_reducible refine (HQ.out _ (by first | exact (Fr.refl _ _).drew | exact (Fr.refl _ _).drewN _ | exact Fr.refl _ _) _ rfl).mono ?_; rintro e w4 ⟨rfl, HF⟩))
           go_roundg (b.length - i)
           case measure => omega
           case rel =>
             obtain ⟨k, hk1, hk2, hk3, hk4⟩ := HF.out
             exact ⟨trivial, k, s2, by omega, hk3, hk4⟩
    · have hi : i = b.length := by omega
      have HTK : Hid (Calls Try.prog 102 #[.int .i64 1, .pointer (some ⟨B1, 0, none⟩), .pointer (some ⟨B2, 0, none⟩)] wr fun e w' => e = .returned (.tuple #[.slice none 0 0, .bool false]) ∧ w' = wr) := take_no hJ.rd 1 (by omega)
      have HF : Hid (P (.returned (.tuple #[.int .i64 b.length, .int .i64 4])) wr) := by
        show P _ _
        rw [HP.out]
        refine ⟨hJ.fr, ?_⟩
        rw [hsc, show b.drop i = [] by simp; omega, scanS]
        exact ⟨rfl, by decide⟩
      clear hsc HI hJ HP
      go_wp2_with (first
          | (go_at_call 104; with_reducible refine (HPL.out).mono ?_; rintro e w0 ⟨rfl, rfl⟩)
          | (go_at_call 102; with_reducible refine (HTK.out).mono ?_; rintro e w1 ⟨rfl, rfl⟩))
      exact HF.out
end Go.Proofs.Ytdeefemeiggolaa

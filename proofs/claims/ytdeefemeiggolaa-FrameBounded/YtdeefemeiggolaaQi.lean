import Derived.Test.YtdeefemeiggolaaQg
namespace Go.Proofs.Ytdeefemeiggolaa
open Go.RowKit
set_option linter.unusedVariables false
/-- The box of the ways to read, in block q. -/
structure Bx (q B1 B2 B3 L : Nat) (w : World) : Prop where
  c0 : w.cell? ⟨q, 0, none⟩ = some (.int .i64 L)
  c1 : w.cell? ⟨q, 1, none⟩ = some (.func (.func 104) #[] #[.pointer (some ⟨B2, 0, none⟩)])
  c2 : w.cell? ⟨q, 2, none⟩ = some (.func (.func 102) #[] #[.pointer (some ⟨B1, 0, none⟩), .pointer (some ⟨B2, 0, none⟩)])
  c3 : w.cell? ⟨q, 3, none⟩ = some (.func (.func 103) #[] #[.pointer (some ⟨B3, 0, none⟩)])
theorem Bx.kept {q B1 B2 B3 L : Nat} {w w' : World} {X : Nat → Prop} (h : Bx q B1 B2 B3 L w) (f : Fr X w w') (hx : ¬ X q) : Bx q B1 B2 B3 L w' := ⟨f.cellv h.c0 hx, f.cellv h.c1 hx, f.cellv h.c2 hx, f.cellv h.c3 hx⟩
theorem Bx.new (w : World) (B1 B2 B3 L : Nat) : Bx w.heap.size B1 B2 B3 L (w.alloc (.cells (rdsV B1 B2 B3 L).toArray 160)) := ⟨new_cell _ _ _ _ _ rfl, new_cell _ _ _ _ _ rfl, new_cell _ _ _ _ _ rfl, new_cell _ _ _ _ _ rfl⟩
theorem KK.grow {K : Nat → Prop} {D B1 B2 B3 : Nat} {w w' : World} (h : KK K D B1 B2 B3 w) (hs : w.heap.size ≤ w'.heap.size) : KK K D B1 B2 B3 w' := ⟨h.d, h.b1, h.b2, h.b3, fun k hk => Nat.lt_of_lt_of_le (h.lt k hk) hs⟩
/-- Rds behind what a taker did. -/
theorem Rds.taken {D B1 B2 B3 : Nat} {a : Option Addr} {c : Nat} {b : List By} {i : Nat} {w0 w w' : World} {K : Nat → Prop} (h : Rds D B1 B2 B3 a c b i w) (k : KK K D B1 B2 B3 w0) (f : Fr (fun k => ¬ K k) w w') : Rds D B1 B2 B3 a c b i w' :=
  h.kept f (fun h => h k.b1) (fun h => h k.b2) (fun h => h k.b3) (fun i hi h => h (k.d i hi))
theorem rdsV_eq (B1 B2 B3 L : Nat) : (rdsV B1 B2 B3 L).toArray = #[.int .i64 L, .func (.func 104) #[] #[.pointer (some ⟨B2, 0, none⟩)], .func (.func 102) #[] #[.pointer (some ⟨B1, 0, none⟩), .pointer (some ⟨B2, 0, none⟩)], .func (.func 103) #[] #[.pointer (some ⟨B3, 0, none⟩)]] := rfl
section
variable (P : Ending → World → Prop) (R : World → Prop) (B1 B2 B3 L q low : Nat) (ty : TypeId) (v : Value) (w W0 : World) (hW : w.alloc (.cells #[.int .i64 L, .func (.func 104) #[] #[.pointer (some ⟨B2, 0, none⟩)], .func (.func 102) #[] #[.pointer (some ⟨B1, 0, none⟩), .pointer (some ⟨B2, 0, none⟩)], .func (.func 103) #[] #[.pointer (some ⟨B3, 0, none⟩)]] 160) = W0) (hq : w.heap.size = q)
include hW hq
set_option maxHeartbeats 4000000 in
theorem sp_none (hx : Bx q B1 B2 B3 L W0) (HN : Hid (Calls Try.prog 103 #[.int .u8 low, .pointer (some ⟨B3, 0, none⟩)] W0 fun e w' => e = .returned (.tuple #[.int .i64 0, .bool false]) ∧ Bx q B1 B2 B3 L w' ∧ R w'))
    (HF : Hid (∀ w', R w' → P (.returned (.tuple #[.int .i64 L, .int .i64 4])) w')) : Calls Try.prog 100 #[.agg (rdsV B1 B2 B3 L).toArray, .iface ty v, .int .u8 low] w P := by
  rw [rdsV_eq]
  obtain ⟨x0, x1, x2, x3⟩ := hx
  go_enter Try.func100, Try.ntmps100
  go_wp2_with (first | (go_at_call 103; with_reducible refine (HN.out).mono ?_; rintro e w1 ⟨rfl, ⟨y0, y1, y2, y3⟩, hR⟩))
  exact HF.out _ hR
set_option maxHeartbeats 4000000 in
set_option maxRecDepth 100000 in
theorem sp_full (n : Nat) (fR : Nat) (mR : ∀ w, (method 280 ty v "satchel/lz.room").run Try.prog w = .ok (fR, v) w) (eR : ∀ args w, (callFunc fR args).run Try.prog w = .ok (.enter fR args) w)
    (hx : Bx q B1 B2 B3 L W0) (at' : Nat) (HN : Hid (Calls Try.prog 103 #[.int .u8 low, .pointer (some ⟨B3, 0, none⟩)] W0 fun e w' => e = .returned (.tuple #[.int .i64 n, .bool true]) ∧ Bx q B1 B2 B3 L w' ∧
      Hid (Calls Try.prog fR #[v, .int .i64 n] w' fun e w2 => e = .returned (.bool false) ∧ Bx q B1 B2 B3 L w2 ∧ Hid (Calls Try.prog 104 #[.pointer (some ⟨B2, 0, none⟩)] w2 fun e w3 => e = .returned (.int .i64 at') ∧ R w3))))
    (HF : Hid (∀ w', R w' → P (.returned (.tuple #[.int .i64 at', .int .i64 32])) w')) : Calls Try.prog 100 #[.agg (rdsV B1 B2 B3 L).toArray, .iface ty v, .int .u8 low] w P := by
  rw [rdsV_eq]
  obtain ⟨x0, x1, x2, x3⟩ := hx
  go_enter Try.func100, Try.ntmps100
  go_wp2_with (first
    | (go_at_call 103; with_reducible refine (HN.out).mono ?_; rintro e w1 ⟨rfl, ⟨y0, y1, y2, y3⟩, HR⟩)
    | (go_at_call 104; with_reducible refine (HR2.out).mono ?_; rintro e w3 ⟨rfl, hR⟩)
    | (go_at_fn fR; with_reducible refine (HR.out).mono ?_; rintro e w2 ⟨rfl, ⟨z0, z1, z2, z3⟩, HR2⟩))
  exact HF.out _ hR
set_option maxHeartbeats 4000000 in
set_option maxRecDepth 100000 in
theorem sp_short (n : Nat) (fR : Nat) (mR : ∀ w, (method 280 ty v "satchel/lz.room").run Try.prog w = .ok (fR, v) w) (eR : ∀ args w, (callFunc fR args).run Try.prog w = .ok (.enter fR args) w)
    (hx : Bx q B1 B2 B3 L W0) (HN : Hid (Calls Try.prog 103 #[.int .u8 low, .pointer (some ⟨B3, 0, none⟩)] W0 fun e w' => e = .returned (.tuple #[.int .i64 n, .bool true]) ∧ Bx q B1 B2 B3 L w' ∧
      Hid (Calls Try.prog fR #[v, .int .i64 n] w' fun e w2 => e = .returned (.bool true) ∧ Bx q B1 B2 B3 L w2 ∧ Hid (Calls Try.prog 102 #[.int .i64 n, .pointer (some ⟨B1, 0, none⟩), .pointer (some ⟨B2, 0, none⟩)] w2 fun e w3 => e = .returned (.tuple #[.slice none 0 0, .bool false]) ∧ Bx q B1 B2 B3 L w3 ∧ R w3))))
    (HF : Hid (∀ w', R w' → P (.returned (.tuple #[.int .i64 L, .int .i64 4])) w')) : Calls Try.prog 100 #[.agg (rdsV B1 B2 B3 L).toArray, .iface ty v, .int .u8 low] w P := by
  rw [rdsV_eq]
  obtain ⟨x0, x1, x2, x3⟩ := hx
  go_enter Try.func100, Try.ntmps100
  go_wp2_with (first
    | (go_at_call 103; with_reducible refine (HN.out).mono ?_; rintro e w1 ⟨rfl, ⟨y0, y1, y2, y3⟩, HR⟩)
    | (go_at_call 102; with_reducible refine (HR2.out).mono ?_; rintro e w3 ⟨rfl, ⟨u0, u1, u2, u3⟩, hR⟩)
    | (go_at_fn fR; with_reducible refine (HR.out).mono ?_; rintro e w2 ⟨rfl, ⟨z0, z1, z2, z3⟩, HR2⟩))
  exact HF.out _ hR
set_option maxHeartbeats 4000000 in
set_option maxRecDepth 100000 in
theorem sp_ok (n : Nat) (fR fP : Nat) (mR : ∀ w, (method 280 ty v "satchel/lz.room").run Try.prog w = .ok (fR, v) w) (eR : ∀ args w, (callFunc fR args).run Try.prog w = .ok (.enter fR args) w) (mP : ∀ w, (method 280 ty v "satchel/lz.plain").run Try.prog w = .ok (fP, v) w) (eP : ∀ args w, (callFunc fP args).run Try.prog w = .ok (.enter fP args) w)
    (hx : Bx q B1 B2 B3 L W0) (HN : Hid (Calls Try.prog 103 #[.int .u8 low, .pointer (some ⟨B3, 0, none⟩)] W0 fun e w' => e = .returned (.tuple #[.int .i64 n, .bool true]) ∧ Bx q B1 B2 B3 L w' ∧
      Hid (Calls Try.prog fR #[v, .int .i64 n] w' fun e w2 => e = .returned (.bool true) ∧ Bx q B1 B2 B3 L w2 ∧ Hid (Calls Try.prog 102 #[.int .i64 n, .pointer (some ⟨B1, 0, none⟩), .pointer (some ⟨B2, 0, none⟩)] w2 fun e w3 => ∃ a1 n1 c1, e = .returned (.tuple #[.slice a1 n1 c1, .bool true]) ∧ Bx q B1 B2 B3 L w3 ∧
        Hid (Calls Try.prog fP #[v, .slice a1 n1 c1] w3 fun e w4 => (∃ r, e = .returned r) ∧ R w4)))))
    (HF : Hid (∀ w', R w' → P (.returned (.tuple #[.int .i64 0, .int .i64 0])) w')) : Calls Try.prog 100 #[.agg (rdsV B1 B2 B3 L).toArray, .iface ty v, .int .u8 low] w P := by
  rw [rdsV_eq]
  obtain ⟨x0, x1, x2, x3⟩ := hx
  go_enter Try.func100, Try.ntmps100
  go_wp2_with (first
    | (go_at_call 103; with_reducible refine (HN.out).mono ?_; rintro e w1 ⟨rfl, ⟨y0, y1, y2, y3⟩, HR⟩)
    | (go_at_call 102; with_reducible refine (HR2.out).mono ?_; rintro e w3 ⟨a1, n1, c1, rfl, ⟨u0, u1, u2, u3⟩, HR3⟩)
    | (go_at_fn fR; with_reducible refine (HR.out).mono ?_; rintro e w2 ⟨rfl, ⟨z0, z1, z2, z3⟩, HR2⟩)
    | (go_at_fn fP; with_reducible refine (HR3.out).mono ?_; rintro e w4 ⟨⟨r4, rfl⟩, hR⟩))
  exact HF.out _ hR
end
set_option maxHeartbeats 8000000 in
theorem scanPlain_any {σ : Type} {T : Tk σ} {D : Nat} {ty : TypeId} {v : Value} {fR fP fC fM fE : Nat} {TI : σ → (Nat → Prop) → World → Prop} (HT : Tkr T D ty v fR fP fC fM fE TI)
    {B1 B2 B3 : Nat} {a : Option Addr} {c : Nat} {b : List By} {i : Nat} {s : σ} {K : Nat → Prop} {w : World} (hR : Rds D B1 B2 B3 a c b i w) (hT : TI s K w) (hK : KK K D B1 B2 B3 w) (hb : b ≠ []) (low : Nat) (hl : low ≤ 15) :
    Calls Try.prog 100 #[.agg (rdsV B1 B2 B3 b.length).toArray, .iface ty v, .int .u8 low] w (Stepd TI D B1 B2 B3 a c b K (plainS T b.length low (b.drop i) s) w) := by
  obtain ⟨W0, hW0⟩ : ∃ W0, w.alloc (.cells (rdsV B1 B2 B3 b.length).toArray 160) = W0 := ⟨_, rfl⟩
  have hN0 : Nw w W0 := by rw [← hW0]; exact (Fr.refl _ _).alloc _
  have hs0 : W0.heap.size = w.heap.size + 1 := by rw [← hW0]; simp
  have hx0 : Bx w.heap.size B1 B2 B3 b.length W0 := by rw [← hW0]; exact Bx.new _ _ _ _ _
  have hR0 := hR.nw hN0
  have hd2 := hR.d2
  have hlt2 := hR.lt2
  have hsm := hR.sm
  obtain ⟨q, hq⟩ : ∃ q, w.heap.size = q := ⟨_, rfl⟩
  rw [hq] at hx0
  have hqK : ¬ K q := fun h => by have := hK.lt q h; omega
  have hT0 : TI s (fun k => K k ∨ k = q) W0 := HT.grow hT hN0 (fun k hk => by rcases hk with h | h; exact .inl h; exact .inr (by omega))
  have hK0 : KK (fun k => K k ∨ k = q) D B1 B2 B3 W0 := ⟨fun k h => .inl (hK.d k h), .inl hK.b1, .inl hK.b2, .inl hK.b3, fun k h => by rcases h with h | h; have := hK.lt k h; omega; omega⟩
  have hqB : q ≠ B2 := by omega
  have hFB : ∀ w', Fr (fun k => k = B2) W0 w' → Fr (fun k => ¬ K k ∨ k = B2) w w' := fun w' hF => hN0.any.trans (hF.mono (fun k hk => .inl (.inr hk)))
  have hFT : ∀ w' w'', Fr (fun k => ¬ (K k ∨ k = q)) w' w'' → Fr (fun k => ¬ K k ∨ k = B2) w' w'' := fun w' w'' hF => hF.mono (fun k hk => .inl (.inl (fun h => hk (.inl h))))
  have hlen : (b.drop i).length = b.length - i := by simp
  have hle := hR.le
  cases hn : num low (b.drop i) with
  | none =>
    refine sp_none _ (fun w' => Fr (fun k => k = B2) W0 w') B1 B2 B3 b.length q low ty v w W0 hW0 hq hx0 ?_ ?_
    · refine (number_any hR0 low hl).mono ?_
      rw [hn]
      rintro e w' ⟨rfl, hF⟩
      exact ⟨rfl, hx0.kept hF hqB, hF⟩
    · intro w' hF
      refine ⟨hFB _ hF, ?_⟩
      simp only [plainS, hn]
      exact ⟨rfl, by decide⟩
  | some p =>
    obtain ⟨n, k⟩ := p
    have hnk := num_le hn hl
    rw [hlen] at hnk
    by_cases hroom : T.room s n = true
    · by_cases hsh : (b.drop i).length - k < n
      · -- its bytes end
        refine sp_short _ (fun w' => Fr (fun k => ¬ K k ∨ k = B2) w w') B1 B2 B3 b.length q low ty v w W0 hW0 hq n fR HT.mR HT.eR hx0 ?_ ?_
        · refine (number_any hR0 low hl).mono ?_
          rw [hn]
          rintro e w1 ⟨rfl, hR1, hF1⟩
          have hx1 := hx0.kept hF1 hqB
          refine ⟨rfl, hx1, ?_⟩
          refine (HT.room n (HT.keep hT0 hF1 (fun k hk => by subst hk; exact ⟨.inl hK.b2, hd2⟩)) (by omega)).mono ?_
          rintro e w2 ⟨rfl, hN2⟩
          refine ⟨by rw [hroom], hx1.kept hN2 (fun h => h), ?_⟩
          refine (take_no (hR1.nw hN2) n (by omega)).mono ?_
          rintro e w3 ⟨rfl, rfl⟩
          exact ⟨rfl, hx1.kept hN2 (fun h => h), (hFB _ hF1).trans hN2.any⟩
        · intro w' hF
          refine ⟨hF, ?_⟩
          simp only [plainS, hn, hroom, hsh, if_true, Bool.true_eq_false, if_false]
          exact ⟨rfl, by decide⟩
      · -- taken
        rw [hlen] at hsh
        have hpl : ((b.drop (i + k)).take n).length = n := by simp; omega
        refine sp_ok _ (fun w' => Fr (fun k => ¬ K k ∨ k = B2) w w' ∧ Rds D B1 B2 B3 a c b (i + k + n) w' ∧ TI (T.plain s ((b.drop (i + k)).take n)) K w') B1 B2 B3 b.length q low ty v w W0 hW0 hq n fR fP HT.mR HT.eR HT.mP HT.eP hx0 ?_ ?_
        · refine (number_any hR0 low hl).mono ?_
          rw [hn]
          rintro e w1 ⟨rfl, hR1, hF1⟩
          have hx1 := hx0.kept hF1 hqB
          have hT1 := HT.keep hT0 hF1 (fun k hk => by subst hk; exact ⟨.inl hK.b2, hd2⟩)
          refine ⟨rfl, hx1, ?_⟩
          refine (HT.room n hT1 (by omega)).mono ?_
          rintro e w2 ⟨rfl, hN2⟩
          have hx2 := hx1.kept hN2 (fun h => h)
          have hT2 := HT.grow hT1 hN2 (fun k hk => .inl hk)
          refine ⟨by rw [hroom], hx2, ?_⟩
          refine (take_yes (hR1.nw hN2) hb n (by omega)).mono ?_
          rintro e w3 ⟨g, q3, d3, rfl, hd3, hd3', hg, hrd, hR3, hF3⟩
          have hT3 := HT.keep hT2 hF3 (fun k hk => by subst hk; exact ⟨.inl hK.b2, hd2⟩)
          have hK3 := hK0.grow (w' := w3) (Nat.le_trans hF1.size (Nat.le_trans hN2.size hF3.size))
          refine ⟨_, _, _, rfl, hx2.kept hF3 hqB, ?_⟩
          have hsl : Sl (fun k => D ≤ k) (.slice (some ⟨g, q3, none⟩) n d3) ((b.drop (i + k)).take n) w3 := .inr ⟨g, by omega, q3, d3, by rw [hpl], by rw [hpl]; exact hd3, hd3', hrd⟩
          refine (HT.plain hT3 hK3.d hK3.lt hsl (by omega) (by rw [hpl]; exact hroom)).mono ?_
          rintro e w4 ⟨hr4, hT4, hF4⟩
          exact ⟨hr4, (((hFB _ hF1).trans hN2.any).trans (hF3.mono (fun k hk => .inl (.inr hk)))).trans (hFT _ _ hF4), hR3.taken hK0 hF4, HT.grow hT4 (Fr.refl _ _) (fun k hk => .inl (.inl hk))⟩
        · rintro w' ⟨hF, hR', hT'⟩
          refine ⟨hF, ?_⟩
          have hsh' : ¬ (b.drop i).length - k < n := by rw [hlen]; exact hsh
          simp only [plainS, hn, hroom, hsh', Bool.true_eq_false, if_false]
          refine ⟨trivial, i + k + n, ?_, hR', ?_⟩
          · rw [List.drop_drop]; congr 1; omega
          · rw [List.drop_drop]; exact hT'
    · -- no room
      have hroom' : T.room s n = false := by simpa using hroom
      refine sp_full _ (fun w' => Fr (fun k => ¬ K k ∨ k = B2) w w') B1 B2 B3 b.length q low ty v w W0 hW0 hq n fR HT.mR HT.eR hx0 (i + k) ?_ ?_
      · refine (number_any hR0 low hl).mono ?_
        rw [hn]
        rintro e w1 ⟨rfl, hR1, hF1⟩
        have hx1 := hx0.kept hF1 hqB
        refine ⟨rfl, hx1, ?_⟩
        refine (HT.room n (HT.keep hT0 hF1 (fun k hk => by subst hk; exact ⟨.inl hK.b2, hd2⟩)) (by omega)).mono ?_
        rintro e w2 ⟨rfl, hN2⟩
        refine ⟨by rw [hroom'], hx1.kept hN2 (fun h => h), ?_⟩
        refine (place_any (hR1.nw hN2)).mono ?_
        rintro e w3 ⟨rfl, rfl⟩
        exact ⟨rfl, (hFB _ hF1).trans hN2.any⟩
      · intro w' hF
        refine ⟨hF, ?_⟩
        simp only [plainS, hn, hroom', if_true]
        refine ⟨?_, by decide⟩
        rw [hlen, show b.length - (b.length - i - k) = i + k by omega]
        rfl
end Go.Proofs.Ytdeefemeiggolaa

namespace Go.Proofs.Ytdeefemeiggolaa
open Go.RowKit
set_option linter.unusedVariables false
theorem two_bytes (x y : Nat) (hx : x < 256) (hy : y < 256) : bits .or .i64 (x : Int) ((y : Int) * 256) = ((x + 256 * y : Nat) : Int) := by
  have h2 : y <<< 8 = y * 256 := by rw [Nat.shiftLeft_eq]
  have e : ((y : Int) * (256 : Int)) = ((y <<< 8 : Nat) : Int) := by rw [h2]; omega
  show IntKind.i64.wrap (((BitVec.ofInt 64 (x : Int) ||| BitVec.ofInt 64 ((y : Int) * (256 : Int)) : BitVec 64).toNat : Nat) : Int) = _
  rw [e, BitVec.toNat_or, BitVec.ofInt_natCast, BitVec.ofInt_natCast, BitVec.toNat_ofNat, BitVec.toNat_ofNat]
  rw [Nat.mod_eq_of_lt (show x < 2 ^ 64 by omega), Nat.mod_eq_of_lt (show y <<< 8 < 2 ^ 64 by omega), Nat.or_comm, ← Nat.shiftLeft_add_eq_or_of_lt (show x < 2 ^ 8 by omega), h2, IntKind.wrap_i64]
  omega
end Go.Proofs.Ytdeefemeiggolaa

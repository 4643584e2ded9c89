import Derived.Test.YtpjnbhflnbhnoaaGreatDoorWax
import Derived.Deep.RegionWith
namespace Go.Proofs.YtpjnbhflnbhnoaaGreatDoor
open Go.RowKit
set_option linter.unusedVariables false
variable {sb rb : Nat} {X : Nat → Prop} {v : Value} {b : List By} {p : Nat} {w : World}
/-- A region without operations: what is left to a walk where a callee has panicked. -/
def Idle : Prop := wpAny Tryz.prog Region.Mode.any #[] (fun _ _ _ => True) 0 #[] { tmps := #[], defers := [] } default
theorem idle_of {P : Ending → World → Prop} {fn : Func} {ch : _} {a : Act} {w : World} (h : a.defers = [] ∧ P (.panicked ch) w) (_ : Idle) : bodyPost Tryz.prog fn P (.panic ch) a w := h
theorem w64 (k : Nat) (h : k ≤ 1000000000000) : IntKind.i64.wrap (k : Int) = (k : Int) := by rw [IntKind.wrap_i64]; omega
theorem takeR_lt {n x : Nat} {t t' : Bt} (h : takeR n t = .ok (x, t')) : x < 2 ^ n := by
  unfold takeR at h
  split at h
  · cases h
  · injection h with h
    injection h with h
    rw [← h]
    exact Nat.mod_lt _ (Nat.pow_pos (by decide))
set_option maxHeartbeats 16000000 in
theorem further4_any (h : Lt sb rb X v b p w) (y : Nat) (hy : y ≤ 31) : Calls Tryz.prog 209 #[.pointer (some ⟨sb, 0, none⟩), .int .i64 y, .int .i64 4] w (Ri sb rb X v b w (furR y 4 (bt b p))) := by
  obtain ⟨P, hP⟩ : ∃ P : Ending → World → Prop, P = Ri sb rb X v b w (furR y 4 (bt b p)) := ⟨_, rfl⟩
  rw [← hP]
  by_cases hlt : y < 4
  · have HF : Hid (P (.returned (.int .i64 y)) w) := by
      show P _ _
      rw [hP, furR, if_pos hlt]; exact .inr ⟨y, p, rfl, rfl, h, Fr.refl _ _⟩
    have hz : (y : Int) < 4 := by omega
    clear hP h
    go_enter Tryz.func209, Tryz.ntmps209
    go_wp2
    exact HF.out
  · obtain ⟨n, hn⟩ : ∃ n, n = y / 4 - 1 := ⟨_, rfl⟩
    obtain ⟨r, hr⟩ : ∃ r, r = y % 4 := ⟨_, rfl⟩
    have hn32 : n ≤ 15 := by omega
    have hfu : furR y 4 = bindR (takeR n) fun v => retR ((4 + r) * 2 ^ n + v) := by rw [furR, if_neg hlt, ← hn, ← hr]
    rw [hfu] at hP
    have hz : ¬ (y : Int) < 4 := by omega
    have hdiv : (y : Int) / 4 - 1 = (n : Int) := by omega
    have hmod : (y : Int).tmod 4 = (r : Int) := by
      rw [Int.tmod_eq_emod_of_nonneg (by omega)]; omega
    have hr4 : r < 4 := by omega
    obtain ⟨m, hm⟩ : ∃ m, m = (4 + r) * 2 ^ n := ⟨_, rfl⟩
    have hpw : 2 ^ n ≤ 2 ^ 15 := Nat.pow_le_pow_right (by decide) hn32
    have hml : m ≤ 262144 := by
      rw [hm]
      have : (4 + r) * 2 ^ n ≤ 8 * 2 ^ 15 := Nat.mul_le_mul (by omega) hpw
      omega
    have hmi : ((4 : Int) + (r : Int)) * 2 ^ n = (m : Int) := by rw [hm]; push_cast; rfl
    rw [← hm] at hP
    have hN := fun V (hV : Nw w V) => jnumber_any (h.nw hV) n (by omega) n rfl
    cases hq : takeR n (bt b p) with
    | bad q =>
      have HN : Hid (∀ V, Nw w V → Calls Tryz.prog 182 #[.pointer (some ⟨sb, 0, none⟩), .int .i64 n] V fun e w' => e = gv q ∧ Hid (P (gv q) w')) := fun V hV => (hN V hV).mono (fun e w' hh => by
        obtain ⟨h1, h2⟩ := hh.isBad hq
        refine ⟨h1, ?_⟩
        show P _ _
        rw [hP]; exact .inl ⟨q, bindR_bad hq, rfl, hV.any.trans h2⟩)
      have hN0 : Nw w w := Fr.refl _ _
      clear hP h hN hq hfu hn hr hm
      go_enter Tryz.func209, Tryz.ntmps209
      go_wp2_with fail
      go_region_with (first
          | (go_at_call 182; with_reducible refine (HN.out _ ?_).mono ?_; (first | assumption | exact (Fr.refl _ _).drew | exact Fr.refl _ _ | exact (Fr.refl _ _).drewN _); rintro e w3 ⟨rfl, HF⟩; (try dsimp only); apply idle_of ⟨rfl, HF.out⟩; unfold Idle))
      all_goals trivial
    | ok r2 =>
      obtain ⟨x, t⟩ := r2
      have hxl : x < 2 ^ 15 := Nat.lt_of_lt_of_le (takeR_lt hq) hpw
      have hxl' : x < 32768 := hxl
      have HN : Hid (∀ V, Nw w V → Calls Tryz.prog 182 #[.pointer (some ⟨sb, 0, none⟩), .int .i64 n] V fun e w' => e = .returned (.int .i64 x) ∧ Hid (∀ W z, z = ((m + x : Nat) : Int) → Nw w' W → P (.returned (.int .i64 z)) W)) := fun V hV => (hN V hV).mono (fun e w' hh => by
        obtain ⟨p', h1, h2, h3, h4⟩ := hh.isOk hq
        refine ⟨h2, fun W z hz hW => ?_⟩
        rw [hz, hP, bindR_eq hq]; exact .inr ⟨m + x, p', by rw [← h1]; rfl, rfl, h3.nw hW, (hV.any.trans h4).trans hW.any⟩)
      have hN0 : Nw w w := Fr.refl _ _
      have hsum : (m : Int) + (x : Int) = ((m + x : Nat) : Int) := by omega
      have hmx : m + x ≤ 294912 := by omega
      generalize m + x = mx at *
      have HE : Hid (IntKind.i64.wrap (IntKind.i64.wrap (IntKind.i64.wrap ((4 : Int) + (r : Int)) * 2 ^ n) + (x : Int)) = (mx : Int)) := by
        show _ = _
        have e1 : (4 : Int) + (r : Int) = ((4 + r : Nat) : Int) := by omega
        rw [e1, w64 _ (by omega), ← e1, hmi, w64 _ (by omega), hsum, w64 _ (by omega)]
      clear hP h hN hq hfu hn hr hm hxl
      go_enter Tryz.func209, Tryz.ntmps209
      go_wp2_with fail
      go_region_with (first
          | (go_at_call 182; with_reducible refine (HN.out _ ?_).mono ?_; (first | assumption | exact (Fr.refl _ _).drew | exact Fr.refl _ _ | exact (Fr.refl _ _).drewN _); rintro e w3 ⟨rfl, HF⟩))
      all_goals simp [Act.put, go_sem]
      all_goals go_wp2_with fail
      all_goals refine HF.out _ _ ?_ (Fr.refl _ _)
      all_goals exact HE.out
set_option maxHeartbeats 16000000 in
theorem further2_any (h : Lt sb rb X v b p w) (y : Nat) (hy : y ≤ 31) : Calls Tryz.prog 209 #[.pointer (some ⟨sb, 0, none⟩), .int .i64 y, .int .i64 2] w (Ri sb rb X v b w (furR y 2 (bt b p))) := by
  obtain ⟨P, hP⟩ : ∃ P : Ending → World → Prop, P = Ri sb rb X v b w (furR y 2 (bt b p)) := ⟨_, rfl⟩
  rw [← hP]
  by_cases hlt : y < 2
  · have HF : Hid (P (.returned (.int .i64 y)) w) := by
      show P _ _
      rw [hP, furR, if_pos hlt]; exact .inr ⟨y, p, rfl, rfl, h, Fr.refl _ _⟩
    have hz : (y : Int) < 2 := by omega
    clear hP h
    go_enter Tryz.func209, Tryz.ntmps209
    go_wp2
    exact HF.out
  · obtain ⟨n, hn⟩ : ∃ n, n = y / 2 - 1 := ⟨_, rfl⟩
    obtain ⟨r, hr⟩ : ∃ r, r = y % 2 := ⟨_, rfl⟩
    have hn32 : n ≤ 15 := by omega
    have hfu : furR y 2 = bindR (takeR n) fun v => retR ((2 + r) * 2 ^ n + v) := by rw [furR, if_neg hlt, ← hn, ← hr]
    rw [hfu] at hP
    have hz : ¬ (y : Int) < 2 := by omega
    have hdiv : (y : Int) / 2 - 1 = (n : Int) := by omega
    have hmod : (y : Int).tmod 2 = (r : Int) := by
      rw [Int.tmod_eq_emod_of_nonneg (by omega)]; omega
    have hr4 : r < 2 := by omega
    obtain ⟨m, hm⟩ : ∃ m, m = (2 + r) * 2 ^ n := ⟨_, rfl⟩
    have hpw : 2 ^ n ≤ 2 ^ 15 := Nat.pow_le_pow_right (by decide) hn32
    have hml : m ≤ 262144 := by
      rw [hm]
      have : (2 + r) * 2 ^ n ≤ 8 * 2 ^ 15 := Nat.mul_le_mul (by omega) hpw
      omega
    have hmi : ((2 : Int) + (r : Int)) * 2 ^ n = (m : Int) := by rw [hm]; push_cast; rfl
    rw [← hm] at hP
    have hN := fun V (hV : Nw w V) => jnumber_any (h.nw hV) n (by omega) n rfl
    cases hq : takeR n (bt b p) with
    | bad q =>
      have HN : Hid (∀ V, Nw w V → Calls Tryz.prog 182 #[.pointer (some ⟨sb, 0, none⟩), .int .i64 n] V fun e w' => e = gv q ∧ Hid (P (gv q) w')) := fun V hV => (hN V hV).mono (fun e w' hh => by
        obtain ⟨h1, h2⟩ := hh.isBad hq
        refine ⟨h1, ?_⟩
        show P _ _
        rw [hP]; exact .inl ⟨q, bindR_bad hq, rfl, hV.any.trans h2⟩)
      have hN0 : Nw w w := Fr.refl _ _
      clear hP h hN hq hfu hn hr hm
      go_enter Tryz.func209, Tryz.ntmps209
      go_wp2_with fail
      go_region_with (first
          | (go_at_call 182; with_reducible refine (HN.out _ ?_).mono ?_; (first | assumption | exact (Fr.refl _ _).drew | exact Fr.refl _ _ | exact (Fr.refl _ _).drewN _); rintro e w3 ⟨rfl, HF⟩; (try dsimp only); apply idle_of ⟨rfl, HF.out⟩; unfold Idle))
      all_goals trivial
    | ok r2 =>
      obtain ⟨x, t⟩ := r2
      have hxl : x < 2 ^ 15 := Nat.lt_of_lt_of_le (takeR_lt hq) hpw
      have hxl' : x < 32768 := hxl
      have HN : Hid (∀ V, Nw w V → Calls Tryz.prog 182 #[.pointer (some ⟨sb, 0, none⟩), .int .i64 n] V fun e w' => e = .returned (.int .i64 x) ∧ Hid (∀ W z, z = ((m + x : Nat) : Int) → Nw w' W → P (.returned (.int .i64 z)) W)) := fun V hV => (hN V hV).mono (fun e w' hh => by
        obtain ⟨p', h1, h2, h3, h4⟩ := hh.isOk hq
        refine ⟨h2, fun W z hz hW => ?_⟩
        rw [hz, hP, bindR_eq hq]; exact .inr ⟨m + x, p', by rw [← h1]; rfl, rfl, h3.nw hW, (hV.any.trans h4).trans hW.any⟩)
      have hN0 : Nw w w := Fr.refl _ _
      have hsum : (m : Int) + (x : Int) = ((m + x : Nat) : Int) := by omega
      have hmx : m + x ≤ 294912 := by omega
      generalize m + x = mx at *
      have HE : Hid (IntKind.i64.wrap (IntKind.i64.wrap (IntKind.i64.wrap ((2 : Int) + (r : Int)) * 2 ^ n) + (x : Int)) = (mx : Int)) := by
        show _ = _
        have e1 : (2 : Int) + (r : Int) = ((2 + r : Nat) : Int) := by omega
        rw [e1, w64 _ (by omega), ← e1, hmi, w64 _ (by omega), hsum, w64 _ (by omega)]
      clear hP h hN hq hfu hn hr hm hxl
      go_enter Tryz.func209, Tryz.ntmps209
      go_wp2_with fail
      go_region_with (first
          | (go_at_call 182; with_reducible refine (HN.out _ ?_).mono ?_; (first | assumption | exact (Fr.refl _ _).drew | exact Fr.refl _ _ | exact (Fr.refl _ _).drewN _); rintro e w3 ⟨rfl, HF⟩))
      all_goals simp [Act.put, go_sem]
      all_goals go_wp2_with fail
      all_goals refine HF.out _ _ ?_ (Fr.refl _ _)
      all_goals exact HE.out
set_option maxHeartbeats 8000000 in
theorem length_any (h : Lt sb rb X v b p w) (y : Nat) (h1 : 257 ≤ y) (h2 : y ≤ 285) : Calls Tryz.prog 193 #[.pointer (some ⟨sb, 0, none⟩), .int .i64 y] w (Ri sb rb X v b w (lenR y (bt b p))) := by
  obtain ⟨P, hP⟩ : ∃ P : Ending → World → Prop, P = Ri sb rb X v b w (lenR y (bt b p)) := ⟨_, rfl⟩
  rw [← hP]
  by_cases h5 : y = 285
  · subst h5
    have HF : Hid (P (.returned (.int .i64 258)) w) := by
      show P _ _
      rw [hP, lenR, if_pos rfl]; exact .inr ⟨258, p, rfl, rfl, h, Fr.refl _ _⟩
    clear hP h
    go_enter Tryz.func193, Tryz.ntmps193
    go_wp2
    exact HF.out
  · rw [lenR, if_neg h5] at hP
    have hN := further4_any h (y - 257) (by omega)
    obtain ⟨z, hz⟩ : ∃ z, z = y - 257 := ⟨_, rfl⟩
    rw [← hz] at hN hP
    have hzi : (y : Int) - 256 - 1 = (z : Int) := by omega
    have hy : ((y : Int) == 285) = false := by simp; omega
    cases hq : furR z 4 (bt b p) with
    | bad q =>
      have HN : Hid (Calls Tryz.prog 209 #[.pointer (some ⟨sb, 0, none⟩), .int .i64 z, .int .i64 4] w fun e w' => e = gv q ∧ Hid (P (gv q) w')) := hN.mono (fun e w' hh => by
        obtain ⟨h1, h2⟩ := hh.isBad hq
        refine ⟨h1, ?_⟩
        show P _ _
        rw [hP]; exact .inl ⟨q, bindR_bad hq, rfl, h2⟩)
      clear hP h hN hq hz
      go_enter Tryz.func193, Tryz.ntmps193
      go_wp2_with (first | (go_at_call 209; (with_reducible refine HN.out.mono ?_); rintro e w2 ⟨rfl, HF⟩))
      exact ⟨rfl, HF.out⟩
    | ok r2 =>
      obtain ⟨x, t⟩ := r2
      have hxl : x ≤ 294912 := by
        unfold furR at hq
        split at hq
        · injection hq with hq; injection hq with hq; omega
        · obtain ⟨a, t1, q1, q2⟩ := bindR_ok hq
          injection q2 with q2
          injection q2 with q2
          have k1 := takeR_lt q1
          have k2 : 2 ^ (z / 4 - 1) ≤ 2 ^ 15 := Nat.pow_le_pow_right (by decide) (by omega)
          have k3 : (4 + z % 4) * 2 ^ (z / 4 - 1) ≤ 8 * 2 ^ 15 := Nat.mul_le_mul (by omega) k2
          omega
      have HN : Hid (Calls Tryz.prog 209 #[.pointer (some ⟨sb, 0, none⟩), .int .i64 z, .int .i64 4] w fun e w' => e = .returned (.int .i64 x) ∧ Hid (P (.returned (.int .i64 (3 + x : Nat))) w')) := hN.mono (fun e w' hh => by
        obtain ⟨p', h1, h2, h3, h4⟩ := hh.isOk hq
        refine ⟨h2, ?_⟩
        show P _ _
        rw [hP, bindR_eq hq]; exact .inr ⟨3 + x, p', by rw [← h1]; rfl, rfl, h3, h4⟩)
      have hsum : (3 : Int) + (x : Int) = ((3 + x : Nat) : Int) := by omega
      have hmx : 3 + x ≤ 294916 := by omega
      generalize 3 + x = mx at *
      clear hP h hN hq hz
      go_enter Tryz.func193, Tryz.ntmps193
      go_wp2_with (first | (go_at_call 209; (with_reducible refine HN.out.mono ?_); rintro e w2 ⟨rfl, HF⟩))
      exact HF.out
/-- How far a distance reaches. -/
theorem furR2_le {z x : Nat} {t t' : Bt} (hz : z ≤ 29) (hq : furR z 2 t = .ok (x, t')) : x < 32768 := by
  unfold furR at hq
  split at hq
  · injection hq with hq; injection hq with hq; omega
  · obtain ⟨a, t1, q1, q2⟩ := bindR_ok hq
    injection q2 with q2
    injection q2 with q2
    have k1 := takeR_lt q1
    have k2 : 2 ^ (z / 2 - 1) ≤ 2 ^ 13 := Nat.pow_le_pow_right (by decide) (by omega)
    have k3 : (2 + z % 2) * 2 ^ (z / 2 - 1) ≤ 3 * 2 ^ 13 := Nat.mul_le_mul (by omega) k2
    omega
theorem distR_le {lb : List Nat} {x : Nat} {t t' : Bt} (hq : distR lb t = .ok (x, t')) : 1 ≤ x ∧ x ≤ 32768 := by
  obtain ⟨a, t1, q1, q2⟩ := bindR_ok hq
  split at q2
  · cases q2
  · obtain ⟨a2, t2, q3, q4⟩ := bindR_ok q2
    have := furR2_le (by omega) q3
    injection q4 with q4
    injection q4 with q4
    omega
theorem symR_lt {ls : List Nat} {x : Nat} {t t' : Bt} (hq : symR ls t = .ok (x, t')) : x < ls.length ∧ Cod ls := by
  by_cases hx : Cod ls ∧ ∃ i, Hits ls (rev 15 t.x) i
  · obtain ⟨hk, i, hi⟩ := hx
    rw [symR_hit hk hi] at hq
    split at hq
    · cases hq
    · injection hq with hq
      injection hq with hq
      rw [← hq]; exact ⟨hi.1, hk⟩
  · rw [symR_none (fun i hk hi => hx ⟨hk, i, hi⟩)] at hq; cases hq
set_option maxHeartbeats 8000000 in
theorem distance_any {C : Nat → Prop} {u : Value} {lb : List Nat} (h : Lt sb rb X v b p w) (hu : w.cell? ⟨sb, 11, none⟩ = some u) (hc : CodV C u lb w) (hr : ¬ C rb) : Calls Tryz.prog 208 #[.pointer (some ⟨sb, 0, none⟩)] w (Ri sb rb X v b w (distR lb (bt b p))) := by
  obtain ⟨P, hP⟩ : ∃ P : Ending → World → Prop, P = Ri sb rb X v b w (distR lb (bt b p)) := ⟨_, rfl⟩
  rw [← hP]
  have hW := jword_any h hc hr
  have hu' : ∃ a, u = .pointer a := by
    rcases hc with ⟨rfl, _⟩ | ⟨cb, _, _, _, _, rfl, _⟩
    · exact ⟨_, rfl⟩
    · exact ⟨_, rfl⟩
  obtain ⟨ua, rfl⟩ := hu'
  cases hq : symR lb (bt b p) with
  | bad q =>
    have HN : Hid (Calls Tryz.prog 190 #[.pointer (some ⟨sb, 0, none⟩), .pointer ua] w fun e w' => e = gv q ∧ Hid (P (gv q) w')) := hW.mono (fun e w' hh => by
      obtain ⟨h1, h2⟩ := hh.isBad hq
      refine ⟨h1, ?_⟩
      show P _ _
      rw [hP]; exact .inl ⟨q, bindR_bad hq, rfl, h2⟩)
    clear hP h hW hq hc
    go_enter Tryz.func208, Tryz.ntmps208
    go_wp2_with (first | (go_at_call 190; (with_reducible refine HN.out.mono ?_); rintro e w2 ⟨rfl, HF⟩))
    exact ⟨rfl, HF.out⟩
  | ok r2 =>
    obtain ⟨y, t⟩ := r2
    have hyl : y < 320 := by
      have := symR_lt hq
      have := this.2.len
      omega
    have hd : distR lb (bt b p) = (if 29 < y then failR 63 else bindR (furR y 2) fun v => retR (1 + v)) t := bindR_eq hq
    by_cases hy : 29 < y
    · rw [if_pos hy] at hd
      have HN : Hid (Calls Tryz.prog 190 #[.pointer (some ⟨sb, 0, none⟩), .pointer ua] w fun e w' => e = .returned (.int .i64 y) ∧ Hid (P (gv 63) w')) := hW.mono (fun e w' hh => by
        obtain ⟨p', h1, h2, h3, h4⟩ := hh.isOk hq
        refine ⟨h2, ?_⟩
        show P _ _
        rw [hP, hd]; exact .inl ⟨63, rfl, rfl, h4⟩)
      have HG : Hid (∀ V, Calls Tryz.prog 186 #[.int .i64 63] V fun e w' => e = gv 63 ∧ w' = V) := fun V => giveUp_any 63 V
      have hz : 29 < (y : Int) := by omega
      clear hP h hW hq hc hd
      go_enter Tryz.func208, Tryz.ntmps208
      go_wp2_with (first | (go_at_call 190; (with_reducible refine HN.out.mono ?_); rintro e w2 ⟨rfl, HF⟩) | (go_at_call 186; (with_reducible refine (HG.out _).mono ?_); rintro e w3 ⟨rfl, rfl⟩))
      exact ⟨rfl, HF.out⟩
    · rw [if_neg hy] at hd
      have hz : ¬ 29 < (y : Int) := by omega
      cases hq2 : furR y 2 t with
      | bad q =>
        have HN : Hid (Calls Tryz.prog 190 #[.pointer (some ⟨sb, 0, none⟩), .pointer ua] w fun e w1 => e = .returned (.int .i64 y) ∧ Hid (Calls Tryz.prog 209 #[.pointer (some ⟨sb, 0, none⟩), .int .i64 y, .int .i64 2] w1 fun e w' => e = gv q ∧ Hid (P (gv q) w'))) := hW.mono (fun e w1 hh => by
          obtain ⟨p', h1, h2, h3, h4⟩ := hh.isOk hq
          refine ⟨h2, ?_⟩
          show Calls _ _ _ _ _
          rw [h1] at hq2
          refine (further2_any h3 y (by omega)).mono (fun e w' h5 => ?_)
          obtain ⟨h6, h7⟩ := h5.isBad hq2
          refine ⟨h6, ?_⟩
          show P _ _
          rw [hP, hd, h1, bindR_bad hq2]; exact .inl ⟨q, rfl, rfl, h4.trans h7⟩)
        clear hP h hW hq hc hd hq2
        go_enter Tryz.func208, Tryz.ntmps208
        go_wp2_with (first | (go_at_call 190; (with_reducible refine HN.out.mono ?_); rintro e w2 ⟨rfl, HD⟩) | (go_at_call 209; (with_reducible refine HD.out.mono ?_); rintro e w3 ⟨rfl, HF⟩))
        exact ⟨rfl, HF.out⟩
      | ok r3 =>
        obtain ⟨x, t3⟩ := r3
        have hxl := furR2_le (by omega) hq2
        have HN : Hid (Calls Tryz.prog 190 #[.pointer (some ⟨sb, 0, none⟩), .pointer ua] w fun e w1 => e = .returned (.int .i64 y) ∧ Hid (Calls Tryz.prog 209 #[.pointer (some ⟨sb, 0, none⟩), .int .i64 y, .int .i64 2] w1 fun e w' => e = .returned (.int .i64 x) ∧ Hid (P (.returned (.int .i64 (1 + x : Nat))) w'))) := hW.mono (fun e w1 hh => by
          obtain ⟨p', h1, h2, h3, h4⟩ := hh.isOk hq
          refine ⟨h2, ?_⟩
          show Calls _ _ _ _ _
          rw [h1] at hq2
          refine (further2_any h3 y (by omega)).mono (fun e w' h5 => ?_)
          obtain ⟨p2, h6, h7, h8, h9⟩ := h5.isOk hq2
          refine ⟨h7, ?_⟩
          show P _ _
          rw [hP, hd, h1, bindR_eq hq2]; exact .inr ⟨1 + x, p2, by rw [← h6]; rfl, rfl, h8, h4.trans h9⟩)
        have hsum : (1 : Int) + (x : Int) = ((1 + x : Nat) : Int) := by omega
        have hmx : 1 + x ≤ 32768 := by omega
        generalize 1 + x = mx at *
        clear hP h hW hq hc hd hq2
        go_enter Tryz.func208, Tryz.ntmps208
        go_wp2_with (first | (go_at_call 190; (with_reducible refine HN.out.mono ?_); rintro e w2 ⟨rfl, HD⟩) | (go_at_call 209; (with_reducible refine HD.out.mono ?_); rintro e w3 ⟨rfl, HF⟩))
        exact HF.out
set_option maxHeartbeats 8000000 in
theorem need_any (n most size : Nat) (h3 : w.cell? ⟨sb, 3, none⟩ = some (.int .i64 most)) (h4 : w.cell? ⟨sb, 4, none⟩ = some (.int .i64 size)) (hm : most ≤ 4194304) (hs : size ≤ most) (hn : n ≤ 4294967296) (z : Int) (hz : z = n) :
    Calls Tryz.prog 191 #[.pointer (some ⟨sb, 0, none⟩), .int .i64 z] w fun e w' => (if most - size < n then e = gv 32 else ∃ r, e = .returned r) ∧ Nw w w' := by
  subst hz
  obtain ⟨P, hP⟩ : ∃ P : Ending → World → Prop, P = fun e w' => (if most - size < n then e = gv 32 else ∃ r, e = .returned r) ∧ Nw w w' := ⟨_, rfl⟩
  rw [← hP]
  by_cases hlt : most - size < n
  · have HF : Hid (∀ V, Nw w V → P (gv 32) V) := fun V hV => by rw [hP]; exact ⟨by rw [if_pos hlt], hV⟩
    have HG : Hid (∀ V, Calls Tryz.prog 186 #[.int .i64 32] V fun e w' => e = gv 32 ∧ w' = V) := fun V => giveUp_any 32 V
    have hz : (most : Int) - (size : Int) < (n : Int) := by omega
    clear hP
    go_enter Tryz.func191, Tryz.ntmps191
    go_wp2_with fail
    go_quiet (fail)
    go_wp2_with (first | (go_at_call 186; (with_reducible refine (HG.out _).mono ?_); rintro e w3 ⟨rfl, rfl⟩))
    exact ⟨rfl, HF.out _ ((Fr.refl _ _).drewN _)⟩
  · have HF : Hid (∀ V r, Nw w V → P (.returned r) V) := fun V r hV => by rw [hP]; exact ⟨by rw [if_neg hlt]; exact ⟨_, rfl⟩, hV⟩
    have hz : ¬ (most : Int) - (size : Int) < (n : Int) := by omega
    clear hP
    go_enter Tryz.func191, Tryz.ntmps191
    go_wp2_with fail
    go_quiet (fail)
    go_wp2_with fail
    go_end0
    exact HF.out _ _ ((Fr.refl _ _).drewN _)
end Go.Proofs.YtpjnbhflnbhnoaaGreatDoor

namespace Go.Proofs.YtpjnbhflnbhnoaaGreatDoor
open Go.RowKit
set_option linter.unusedVariables false
/-- The window: the last plain bytes, each at its place modulo 32768. -/
def Win (wl out : List By) : Prop := wl.length = min out.length 32768 ∧ ∀ i, i < out.length → out.length ≤ i + 32768 → wl[i % 32768]? = out[i]?
theorem Win.grow {wl out : List By} (h : Win wl out) (hl : out.length < 32768) (x : By) : Win (wl ++ [x]) (out ++ [x]) := by
  have h1 : wl.length = out.length := by rw [h.1]; omega
  refine ⟨by simp; omega, fun i hi hi2 => ?_⟩
  simp only [List.length_append, List.length_singleton] at hi hi2
  rw [Nat.mod_eq_of_lt (by omega)]
  by_cases e : i = out.length
  · subst e
    rw [List.getElem?_append_right (by omega), List.getElem?_append_right (by omega), h1]
  · rw [List.getElem?_append_left (by omega), List.getElem?_append_left (by omega)]
    have := h.2 i (by omega) (by omega)
    rw [Nat.mod_eq_of_lt (by omega)] at this
    exact this
theorem Win.turn {wl out : List By} (h : Win wl out) (hl : 32768 ≤ out.length) (x : By) : Win (wl.set (out.length % 32768) x) (out ++ [x]) := by
  have h1 : wl.length = 32768 := by rw [h.1]; omega
  refine ⟨by simp; omega, fun i hi hi2 => ?_⟩
  simp only [List.length_append, List.length_singleton] at hi hi2
  rw [List.getElem?_set]
  by_cases e : i = out.length
  · subst e
    rw [if_pos rfl, if_pos (by omega), List.getElem?_append_right (by omega)]
    simp
  · rw [if_neg (by omega), List.getElem?_append_left (by omega)]
    exact h.2 i (by omega) (by omega)
/-- What lies in a stream's cells, besides what it stands for. -/
structure Mm where
  vw : Value
  vp : Value
  us : Value
  ud : Value
  l : Bool
  fx : Bool
  ow : Option Nat
  op : Option Nat
  wl : List By
abbrev srow (rv : Value) (skip left : Int) (most : Nat) (m : Mm) (s : Sx) : Array Value := #[rv, .int .i64 skip, .int .i64 left, .int .i64 most, .int .i64 s.out.length, m.vw, m.vp, .int .i64 s.md, .bool m.l, .int .i64 s.sto, m.us, m.ud, .bool m.fx]
/-- A stream in memory; the blocks of K are only read. -/
structure SmI (sb : Nat) (K : Nat → Prop) (rv : Value) (skip left : Int) (most told : Nat) (m : Mm) (s : Sx) (w : World) : Prop where
  row : w.heap[sb]? = some (.cells (srow rv skip left most m s) 93)
  ks : ¬ K sb
  lt : ∀ k, K k → k < w.heap.size
  win : Og m.ow m.vw m.wl w
  wi : Win m.wl s.out
  pl : Og m.op m.vp (s.out.drop told) w
  nw : ∀ g, m.ow = some g → ¬ K g ∧ g ≠ sb
  np : ∀ g, m.op = some g → ¬ K g ∧ g ≠ sb ∧ m.ow ≠ some g
  ls : s.md ≠ 0 → m.l = s.lst
  cs : s.md = 2 → CodV K m.us s.la w ∧ CodV K m.ud s.lb w
  cf : m.fx = true → CodV K m.us fixA w ∧ CodV K m.ud fixB w
  pu : ∃ a, m.us = .pointer a
  pd : ∃ a, m.ud = .pointer a
  ol : s.out.length ≤ most
  ml : most ≤ 4194304
  td : told ≤ s.out.length
/-- A stream that is read. -/
structure StI (sb rb : Nat) (K : Nat → Prop) (v : Value) (b : List By) (p : Nat) (skip left : Int) (most told : Nat) (m : Mm) (s : Sx) (w : World) : Prop where
  sm : SmI sb K (.pointer (some ⟨rb, 0, none⟩)) skip left most told m s w
  rr : Rr 181 (fun k => ¬ K k) rb v b p w
  re : rb ≠ sb
  rw : m.ow ≠ some rb
  rp : m.op ≠ some rb
  bl : p ≤ 8 * b.length
/-- Where a step may begin. -/
def Bd (most p : Nat) (s : Sx) : Prop := s.md ≤ 3 ∧ (s.md = 1 → 1 ≤ s.sto ∧ s.sto ≤ most - s.out.length ∧ s.sto ≤ 65535 ∧ p % 8 = 0)
variable {sb rb : Nat} {K : Nat → Prop} {rv : Value} {v : Value} {b : List By} {p : Nat} {skip left : Int} {most told : Nat} {m : Mm} {s : Sx} {w : World}
theorem sc0 {T : Nat} (h : w.heap[sb]? = some (.cells (srow rv skip left most m s) T)) : w.cell? ⟨sb, 0, none⟩ = some (rv) ∧ w.frozen? ⟨sb, 0, none⟩ = false := row_cell h 0 _ rfl
theorem sc1 {T : Nat} (h : w.heap[sb]? = some (.cells (srow rv skip left most m s) T)) : w.cell? ⟨sb, 1, none⟩ = some (.int .i64 skip) ∧ w.frozen? ⟨sb, 1, none⟩ = false := row_cell h 1 _ rfl
theorem sc2 {T : Nat} (h : w.heap[sb]? = some (.cells (srow rv skip left most m s) T)) : w.cell? ⟨sb, 2, none⟩ = some (.int .i64 left) ∧ w.frozen? ⟨sb, 2, none⟩ = false := row_cell h 2 _ rfl
theorem sc3 {T : Nat} (h : w.heap[sb]? = some (.cells (srow rv skip left most m s) T)) : w.cell? ⟨sb, 3, none⟩ = some (.int .i64 most) ∧ w.frozen? ⟨sb, 3, none⟩ = false := row_cell h 3 _ rfl
theorem sc4 {T : Nat} (h : w.heap[sb]? = some (.cells (srow rv skip left most m s) T)) : w.cell? ⟨sb, 4, none⟩ = some (.int .i64 s.out.length) ∧ w.frozen? ⟨sb, 4, none⟩ = false := row_cell h 4 _ rfl
theorem sc5 {T : Nat} (h : w.heap[sb]? = some (.cells (srow rv skip left most m s) T)) : w.cell? ⟨sb, 5, none⟩ = some (m.vw) ∧ w.frozen? ⟨sb, 5, none⟩ = false := row_cell h 5 _ rfl
theorem sc6 {T : Nat} (h : w.heap[sb]? = some (.cells (srow rv skip left most m s) T)) : w.cell? ⟨sb, 6, none⟩ = some (m.vp) ∧ w.frozen? ⟨sb, 6, none⟩ = false := row_cell h 6 _ rfl
theorem sc7 {T : Nat} (h : w.heap[sb]? = some (.cells (srow rv skip left most m s) T)) : w.cell? ⟨sb, 7, none⟩ = some (.int .i64 s.md) ∧ w.frozen? ⟨sb, 7, none⟩ = false := row_cell h 7 _ rfl
theorem sc8 {T : Nat} (h : w.heap[sb]? = some (.cells (srow rv skip left most m s) T)) : w.cell? ⟨sb, 8, none⟩ = some (.bool m.l) ∧ w.frozen? ⟨sb, 8, none⟩ = false := row_cell h 8 _ rfl
theorem sc9 {T : Nat} (h : w.heap[sb]? = some (.cells (srow rv skip left most m s) T)) : w.cell? ⟨sb, 9, none⟩ = some (.int .i64 s.sto) ∧ w.frozen? ⟨sb, 9, none⟩ = false := row_cell h 9 _ rfl
theorem sc10 {T : Nat} (h : w.heap[sb]? = some (.cells (srow rv skip left most m s) T)) : w.cell? ⟨sb, 10, none⟩ = some (m.us) ∧ w.frozen? ⟨sb, 10, none⟩ = false := row_cell h 10 _ rfl
theorem sc11 {T : Nat} (h : w.heap[sb]? = some (.cells (srow rv skip left most m s) T)) : w.cell? ⟨sb, 11, none⟩ = some (m.ud) ∧ w.frozen? ⟨sb, 11, none⟩ = false := row_cell h 11 _ rfl
theorem sc12 {T : Nat} (h : w.heap[sb]? = some (.cells (srow rv skip left most m s) T)) : w.cell? ⟨sb, 12, none⟩ = some (.bool m.fx) ∧ w.frozen? ⟨sb, 12, none⟩ = false := row_cell h 12 _ rfl
theorem SmI.keep {w' : World} {Y : Nat → Prop} (h : SmI sb K rv skip left most told m s w) (f : Fr Y w w') (h1 : ¬ Y sb) (h2 : ∀ k, K k → ¬ Y k) (h3 : ∀ g, m.ow = some g → ¬ Y g) (h4 : ∀ g, m.op = some g → ¬ Y g) : SmI sb K rv skip left most told m s w' :=
  ⟨row_kept h.row f h1, h.ks, fun k hk => Nat.lt_of_lt_of_le (h.lt k hk) f.size, h.win.kept f h3, h.wi, h.pl.kept f h4, h.nw, h.np, h.ls, fun e => ⟨(h.cs e).1.kept f h2, (h.cs e).2.kept f h2⟩, fun e => ⟨(h.cf e).1.kept f h2, (h.cf e).2.kept f h2⟩, h.pu, h.pd, h.ol, h.ml, h.td⟩
theorem SmI.lts (h : SmI sb K rv skip left most told m s w) : sb < w.heap.size := (Array.getElem?_eq_some_iff.1 h.row).1
theorem StI.lt (h : StI sb rb K v b p skip left most told m s w) : Lt sb rb (fun k => ¬ K k) v b p w := ⟨(row_cell h.sm.row 0 _ rfl).1, fun e => h.re e.symm, h.rr, h.bl⟩
theorem StI.kr (h : StI sb rb K v b p skip left most told m s w) : ¬ K rb := h.rr.kr
/-- The reader alone has turned. -/
theorem StI.go {p' : Nat} {w' : World} (h : StI sb rb K v b p skip left most told m s w) (k : Lt sb rb (fun k => ¬ K k) v b p' w') (f : Fr (fun k => k = rb) w w') : StI sb rb K v b p' skip left most told m s w' :=
  ⟨h.sm.keep f (fun e => h.re e.symm) (fun k hk e => h.kr (by rw [← e]; exact hk)) (fun g hg e => h.rw (by rw [hg, e])) (fun g hg e => h.rp (by rw [hg, e])), k.rr, h.re, h.rw, h.rp, k.pl⟩
theorem StI.nw {w' : World} (h : StI sb rb K v b p skip left most told m s w) (f : Nw w w') : StI sb rb K v b p skip left most told m s w' :=
  ⟨h.sm.keep f (fun h => h) (fun _ _ h => h) (fun _ _ h => h) (fun _ _ h => h), h.rr.nw f, h.re, h.rw, h.rp, h.bl⟩
theorem StI.frr {w' : World} (h : StI sb rb K v b p skip left most told m s w) (f : Fr (fun k => k = rb) w w') : Fr (fun k => ¬ K k) w w' := f.mono (fun i hi => .inl (by subst hi; exact h.kr))
/-- One byte more. -/
def Sx.put (s : Sx) (x : By) : Sx := { s with out := s.out ++ [x] }
/-- The stream behind a put: its plain bytes lie in W2 already. -/
theorem put_plain (h : StI sb rb K v b p skip left most told m s w) (x : By) (z : Int) (hz : z = x.toNat) :
    ∃ v1 op1 W1, (∀ ty, (Builtin.append_ #[22, 22] ty #[m.vp, .slice (some ⟨w.heap.size, 0, none⟩) 1 1]).run Tryz.prog (w.alloc (.cells #[.int .u8 z] 5)) = .ok v1 W1) ∧
      (∃ a c, v1 = .slice a (s.out.length - told + 1) c) ∧ W1.cell? ⟨sb, 6, none⟩ = some m.vp ∧ W1.frozen? ⟨sb, 6, none⟩ = false ∧
      (∀ W2, W2 = W1.setCell ⟨sb, 6, none⟩ v1 → W2.heap[sb]? = some (.cells (srow (.pointer (some ⟨rb, 0, none⟩)) skip left most { m with vp := v1, op := op1 } s) 93) ∧ Og op1 v1 ((s.out ++ [x]).drop told) W2 ∧ Og m.ow m.vw m.wl W2 ∧ Rr 181 (fun k => ¬ K k) rb v b p W2 ∧ (∀ u ls, CodV K u ls w → CodV K u ls W2) ∧ Fr (fun k => ¬ K k) w W2 ∧ (∀ g, op1 = some g → ¬ K g ∧ g ≠ sb ∧ m.ow ≠ some g) ∧ op1 ≠ some rb) := by
  have hm := h.sm
  have hol := hm.ol
  have hml := hm.ml
  have hl : (s.out.drop told).length = s.out.length - told := List.length_drop
  obtain ⟨v1, op1, W1, k1, k2, k3, k4⟩ := og_step w m.op m.vp (s.out.drop told) hm.pl (by rw [hl]; omega) x z hz
  have hno : ¬ m.op = some sb := fun e => (hm.np sb e).2.1 rfl
  have hr1 := row_kept hm.row k3 hno
  refine ⟨v1, op1, W1, k1, ?_, (row_cell hr1 6 _ rfl).1, (row_cell hr1 6 _ rfl).2, ?_⟩
  · obtain ⟨a, c, e, _⟩ := k2.form
    rw [List.length_append, hl, List.length_singleton] at e
    exact ⟨a, c, e⟩
  · rintro W2 rfl
    have f2 : Fr (fun k => k = sb) W1 (W1.setCell ⟨sb, 6, none⟩ v1) := (Fr.refl _ _).setCell _ _ (.inl rfl)
    have fa : Fr (fun k => m.op = some k ∨ k = sb) w (W1.setCell ⟨sb, 6, none⟩ v1) := (k3.mono (fun i hi => .inl (.inl hi))).trans (f2.mono (fun i hi => .inl (.inr hi)))
    have hop : ∀ g, op1 = some g → ¬ K g ∧ g ≠ sb ∧ m.ow ≠ some g ∧ g ≠ rb := fun g hg => by
      rcases k4 with e | ⟨g', e, hg'⟩
      · rw [e] at hg
        obtain ⟨a1, a2, a3⟩ := hm.np g hg
        exact ⟨a1, a2, a3, fun e2 => h.rp (by rw [hg, e2])⟩
      · rw [hg] at e
        injection e with e
        subst e
        have := hm.lts
        have := h.rr.lt
        exact ⟨fun hk => by have := hm.lt g hk; omega, by omega, fun e2 => by have := hm.win.lt g e2; omega, by omega⟩
    refine ⟨row_set hr1 6 v1, ?_, ?_, ?_, ?_, ?_, fun g hg => ⟨(hop g hg).1, (hop g hg).2.1, (hop g hg).2.2.1⟩, fun e => (hop rb e).2.2.2 rfl⟩
    · have e : (s.out ++ [x]).drop told = s.out.drop told ++ [x] := by rw [List.drop_append_of_le_length hm.td]
      rw [e]
      exact k2.kept f2 (fun g hg e => (hop g hg).2.1 e)
    · exact hm.win.kept fa (fun g hg e => by
        rcases e with e | e
        · exact (hm.np g e).2.2 hg
        · exact (hm.nw g hg).2 e)
    · exact h.rr.kept fa (fun e => by
        rcases e with e | e
        · exact h.rp e
        · exact h.re e) (fun g hg => by
        rcases hg with e | e
        · exact (hm.np g e).1
        · rw [e]; exact hm.ks)
    · exact fun u ls hu => hu.kept fa (fun k hk e => by
        rcases e with e | e
        · exact (hm.np k e).1 hk
        · rw [e] at hk; exact hm.ks hk)
    · exact fa.mono (fun i hi => .inl (by
        rcases hi with e | e
        · exact (hm.np i e).1
        · rw [e]; exact hm.ks))
end Go.Proofs.YtpjnbhflnbhnoaaGreatDoor

namespace Go.Proofs.YtpjnbhflnbhnoaaGreatDoor
open Go.RowKit
set_option linter.unusedVariables false
variable {sb rb : Nat} {K : Nat → Prop} {rv : Value} {v : Value} {b : List By} {p : Nat} {skip left : Int} {most told : Nat} {m : Mm} {s : Sx} {w : World}
set_option maxHeartbeats 16000000 in
set_option maxRecDepth 100000 in
/-- A plain byte is put: the window grows, or goes round. -/
theorem put_any (h : StI sb rb K v b p skip left most told m s w) (x : By) (z : Int) (hz : z = x.toNat) (hsz : s.out.length < most) :
    Calls Tryz.prog 188 #[.pointer (some ⟨sb, 0, none⟩), .int .u8 z] w fun e w' => (∃ r, e = .returned r) ∧ (∃ m', m'.l = m.l ∧ m'.fx = m.fx ∧ m'.us = m.us ∧ m'.ud = m.ud ∧ StI sb rb K v b p skip left most told m' (s.put x) w') ∧ Fr (fun k => ¬ K k) w w' := by
  obtain ⟨P, hP⟩ : ∃ P : Ending → World → Prop, P = fun e w' => (∃ r, e = .returned r) ∧ (∃ m', m'.l = m.l ∧ m'.fx = m.fx ∧ m'.us = m.us ∧ m'.ud = m.ud ∧ StI sb rb K v b p skip left most told m' (s.put x) w') ∧ Fr (fun k => ¬ K k) w w' := ⟨_, rfl⟩
  rw [← hP]
  obtain ⟨v1, op1, W1, k1, ⟨a1, c1, rfl⟩, k2, k3, k4⟩ := put_plain h x z hz
  obtain ⟨W2, hW2⟩ : ∃ W2, W2 = W1.setCell ⟨sb, 6, none⟩ (.slice a1 (s.out.length - told + 1) c1) := ⟨_, rfl⟩
  obtain ⟨r2, o2, ow2, rr2, cc2, f2, no2, nr2⟩ := k4 W2 hW2
  have hm := h.sm
  have hol := hm.ol
  have hml := hm.ml
  obtain ⟨pa, pc, hvp, _, _⟩ := hm.pl.form
  have hlp : (s.out.drop told).length = s.out.length - told := List.length_drop
  rw [hlp] at hvp
  obtain ⟨wa, wc, hvw, hwc1, hwc2⟩ := hm.win.form
  have hwl := hm.wi.1
  have c4 := sc4 r2
  have c5 := sc5 r2
  have c0 := (sc6 hm.row).1
  have HAP1 : Hid (∀ ty, (Builtin.append_ #[22, 22] ty #[m.vp, .slice (some ⟨w.heap.size, 0, none⟩) 1 1]).run Tryz.prog (w.alloc (.cells #[.int .u8 z] 5)) = .ok (.slice a1 (s.out.length - told + 1) c1) W1) := k1
  rw [hvp] at HAP1 c0 k2
  have hlt2 := f2.size
  by_cases hsm : s.out.length < 32768
  · -- the window grows
    obtain ⟨v3, ow3, W3, j1, j2, j3, j4⟩ := og_step W2 m.ow m.vw m.wl ow2 (by omega) x z hz
    obtain ⟨a3, c3, rfl, _, _⟩ := j2.form
    have hno : ¬ m.ow = some sb := fun e => (hm.nw sb e).2 rfl
    have r3 := row_kept r2 j3 hno
    have d5 := sc5 r3
    have r4 := row_set r3 5 (.slice a3 (m.wl ++ [x]).length c3)
    have d4 : (W3.setCell ⟨sb, 5, none⟩ (.slice a3 (m.wl ++ [x]).length c3)).cell? ⟨sb, 4, none⟩ = some (.int .i64 s.out.length) ∧ (W3.setCell ⟨sb, 5, none⟩ (.slice a3 (m.wl ++ [x]).length c3)).frozen? ⟨sb, 4, none⟩ = false := row_cell r4 4 _ rfl
    have r5 := row_set r4 4 (.int .i64 ((s.out.length : Int) + 1))
    have HF : Hid (∀ r, P (.returned r) ((W3.setCell ⟨sb, 5, none⟩ (.slice a3 (m.wl ++ [x]).length c3)).setCell ⟨sb, 4, none⟩ (.int .i64 ((s.out.length : Int) + 1)))) := fun r => by
      have fs : Fr (fun k => k = sb) W3 ((W3.setCell ⟨sb, 5, none⟩ (.slice a3 (m.wl ++ [x]).length c3)).setCell ⟨sb, 4, none⟩ (.int .i64 ((s.out.length : Int) + 1))) := Fr.setCell (Fr.setCell (Fr.refl (fun k => k = sb) W3) ⟨sb, 5, none⟩ _ (.inl rfl)) ⟨sb, 4, none⟩ _ (.inl rfl)
      have fa : Fr (fun k => m.ow = some k ∨ k = sb) W2 ((W3.setCell ⟨sb, 5, none⟩ (.slice a3 (m.wl ++ [x]).length c3)).setCell ⟨sb, 4, none⟩ (.int .i64 ((s.out.length : Int) + 1))) := (j3.mono (fun i hi => .inl (.inl hi))).trans (fs.mono (fun i hi => .inl (.inr hi)))
      have how : ∀ g, ow3 = some g → ¬ K g ∧ g ≠ sb ∧ op1 ≠ some g ∧ g ≠ rb := fun g hg => by
        rcases j4 with e | ⟨g', e, hg'⟩
        · rw [e] at hg
          obtain ⟨a1, a2⟩ := hm.nw g hg
          exact ⟨a1, a2, fun e2 => (no2 g e2).2.2 hg, fun e2 => h.rw (by rw [hg, e2])⟩
        · rw [hg] at e
          injection e with e
          subst e
          have := hm.lts
          have := rr2.lt
          exact ⟨fun hk => by have := hm.lt g hk; omega, by omega, fun e2 => by have := o2.lt g e2; omega, by omega⟩
      have hcc : ∀ u ls, CodV K u ls w → CodV K u ls ((W3.setCell ⟨sb, 5, none⟩ (.slice a3 (m.wl ++ [x]).length c3)).setCell ⟨sb, 4, none⟩ (.int .i64 ((s.out.length : Int) + 1))) := fun u ls hu => (cc2 u ls hu).kept fa (fun k hk e => by
        rcases e with e | e
        · exact (hm.nw k e).1 hk
        · rw [e] at hk; exact hm.ks hk)
      rw [hP]
      refine ⟨⟨_, rfl⟩, ⟨{ m with vp := .slice a1 (s.out.length - told + 1) c1, op := op1, vw := .slice a3 (m.wl ++ [x]).length c3, ow := ow3, wl := m.wl ++ [x] }, rfl, rfl, rfl, rfl, ⟨?_, hm.ks, fun k hk => ?_, ?_, ?_, ?_, fun g hg => ⟨(how g hg).1, (how g hg).2.1⟩, fun g hg => ⟨(no2 g hg).1, (no2 g hg).2.1, fun e => (how g e).2.2.1 hg⟩, hm.ls, fun e => ⟨hcc _ _ (hm.cs e).1, hcc _ _ (hm.cs e).2⟩, fun e => ⟨hcc _ _ (hm.cf e).1, hcc _ _ (hm.cf e).2⟩, hm.pu, hm.pd, ?_, hml, ?_⟩, ?_, h.re, fun e => (how rb e).2.2.2 rfl, nr2, h.bl⟩, ?_⟩
      · rw [r5]
        simp [srow, Sx.put]
      · have := hm.lt k hk
        have := fa.size
        omega
      · exact j2.kept fs (fun g hg e => (how g hg).2.1 e)
      · exact hm.wi.grow hsm x
      · exact o2.kept fa (fun g hg e => by
          rcases e with e | e
          · exact (no2 g hg).2.2 e
          · exact (no2 g hg).2.1 e)
      · simp [Sx.put]; omega
      · have := hm.td
        simp [Sx.put]; omega
      · exact rr2.kept fa (fun e => by
          rcases e with e | e
          · exact h.rw e
          · exact h.re e) (fun g hg => by
          rcases hg with e | e
          · exact (hm.nw g e).1
          · rw [e]; exact hm.ks)
      · exact f2.trans (fa.mono (fun i hi => .inl (by
          rcases hi with e | e
          · exact (hm.nw i e).1
          · rw [e]; exact hm.ks)))
    have HAP3 : Hid (∀ ty, (Builtin.append_ #[22, 22] ty #[m.vw, .slice (some ⟨W2.heap.size, 0, none⟩) 1 1]).run Tryz.prog (W2.alloc (.cells #[.int .u8 z] 5)) = .ok (.slice a3 (m.wl ++ [x]).length c3) W3) := j1
    obtain ⟨c40, c41⟩ := c4
    obtain ⟨c50, c51⟩ := c5
    obtain ⟨d40, d41⟩ := d4
    obtain ⟨d50, d51⟩ := d5
    rw [hvw] at HAP3 c50 d50
    have HW2 : Hid (W1.setCell ⟨sb, 6, none⟩ (.slice a1 (s.out.length - told + 1) c1) = W2) := hW2.symm
    have hz2 : (s.out.length : Int) < 32768 := by omega
    have hz3 : s.out.length ≤ 4194304 := by omega
    clear hP h hm r2 o2 ow2 rr2 cc2 f2 no2 nr2 k1 k4 hW2 j1 j2 j3 j4 r3 r4 r5 hno hlt2 hlp hvp hvw hwl hz hsm
    generalize s.out.length - told + 1 = n1 at *
    generalize s.out.length - told = n0 at *
    generalize s.out.length = size at *
    generalize (m.wl ++ [x]).length = n3 at *
    generalize m.wl.length = n2 at *
    obtain ⟨W4, hW4⟩ : ∃ W4, W4 = W3.setCell ⟨sb, 5, none⟩ (.slice a3 n3 c3) := ⟨_, rfl⟩
    rw [← hW4] at d40 d41 HF
    have HW4 : Hid (W3.setCell ⟨sb, 5, none⟩ (.slice a3 n3 c3) = W4) := hW4.symm
    clear hW4
    go_enter Tryz.func188, Tryz.ntmps188
    go_upto_region 1 with (first
      | (at_builtin; refine Lib.wpList_append_run _ rfl _ _ 22 22 rfl (.slice pa n0 pc) (.slice (some ⟨w.heap.size, 0, none⟩) 1 1) (by simp [Act.eval]) (by simp [Act.eval]) _ _ (HAP1.out _) ?_))
    rw [HW2.out]
    clear HW2 HAP1 k2 k3
    go_upto_region 4 with (first
      | (at_builtin; refine Lib.wpList_append_run _ rfl _ _ 22 22 rfl (.slice wa n2 wc) (.slice (some ⟨W2.heap.size, 0, none⟩) 1 1) (by simp [Act.eval]) (by simp [Act.eval]) _ _ (HAP3.out _) ?_))
    rw [HW4.out]
    clear HW4 HAP3 d50 d51 c40 c41 c50 c51
    go_wp2_with fail
    go_end0
    exact HF.out _
  · -- the window goes round
    obtain ⟨q, hq⟩ : ∃ q, q = s.out.length % 32768 := ⟨_, rfl⟩
    have hwl2 : m.wl.length = 32768 := by rw [hwl]; omega
    have hql : q < 32768 := by omega
    cases how : m.ow with
    | none =>
      have := hm.win
      rw [how] at this
      rw [this.2] at hwl2
      simp at hwl2
    | some g =>
      have hOw : Ow g m.vw m.wl W2 := by
        have := ow2
        rw [how] at this
        exact this
      obtain ⟨hgk, hgs⟩ := hm.nw g how
      have hat := hOw.at q (by omega)
      have hput := hOw.put q (by omega) x z hz
      obtain ⟨W4, hW4⟩ : ∃ W4, W4 = W2.setCell ⟨g, q, none⟩ (.int .u8 z) := ⟨_, rfl⟩
      rw [← hW4] at hput
      have f4 : Fr (fun k => k = g) W2 W4 := by rw [hW4]; exact (Fr.refl _ _).setCell _ _ (.inl rfl)
      have r4 := row_kept r2 f4 (fun e => hgs e.symm)
      have r5 := row_set r4 4 (.int .i64 ((s.out.length : Int) + 1))
      have d4 := sc4 r4
      have hvg : ∃ xs, m.vw = .slice (some ⟨g, 0, none⟩) m.wl.length xs := by
        obtain ⟨xs, e, _⟩ := hOw
        exact ⟨_, e⟩
      obtain ⟨wc', hvg⟩ := hvg
      have hwcc : wc' = wc ∧ wa = some ⟨g, 0, none⟩ := by
        rw [hvg] at hvw
        injection hvw with e1 e2 e3
        exact ⟨e3, e1.symm⟩
      obtain ⟨rfl, rfl⟩ := hwcc
      have HF : Hid (∀ r n, P (.returned r) ((W4.drewN n).setCell ⟨sb, 4, none⟩ (.int .i64 ((s.out.length : Int) + 1)))) := fun r n => by
        have r4 := row_kept r4 (((Fr.refl (fun _ => False) W4).drewN n)) (fun h => h)
        have r5 := row_set r4 4 (.int .i64 ((s.out.length : Int) + 1))
        have hput := hput.nw ((Fr.refl (fun _ => False) W4).drewN n)
        have f4 : Fr (fun k => k = g) W2 (W4.drewN n) := f4.drewN n
        have fs : Fr (fun k => k = sb) (W4.drewN n) ((W4.drewN n).setCell ⟨sb, 4, none⟩ (.int .i64 ((s.out.length : Int) + 1))) := (Fr.refl _ _).setCell _ _ (.inl rfl)
        have fa : Fr (fun k => k = g ∨ k = sb) W2 ((W4.drewN n).setCell ⟨sb, 4, none⟩ (.int .i64 ((s.out.length : Int) + 1))) := (f4.mono (fun i hi => .inl (.inl hi))).trans (fs.mono (fun i hi => .inl (.inr hi)))
        have hcc : ∀ u ls, CodV K u ls w → CodV K u ls ((W4.drewN n).setCell ⟨sb, 4, none⟩ (.int .i64 ((s.out.length : Int) + 1))) := fun u ls hu => (cc2 u ls hu).kept fa (fun k hk e => by
          rcases e with e | e
          · rw [e] at hk; exact hgk hk
          · rw [e] at hk; exact hm.ks hk)
        rw [hP]
        refine ⟨⟨_, rfl⟩, ⟨{ m with vp := .slice a1 (s.out.length - told + 1) c1, op := op1, wl := m.wl.set q x }, rfl, rfl, rfl, rfl, ⟨?_, hm.ks, fun k hk => ?_, ?_, ?_, ?_, hm.nw, no2, hm.ls, fun e => ⟨hcc _ _ (hm.cs e).1, hcc _ _ (hm.cs e).2⟩, fun e => ⟨hcc _ _ (hm.cf e).1, hcc _ _ (hm.cf e).2⟩, hm.pu, hm.pd, ?_, hml, ?_⟩, ?_, h.re, h.rw, nr2, h.bl⟩, ?_⟩
        · rw [r5]
          simp [srow, Sx.put]
        · have := hm.lt k hk
          have := fa.size
          omega
        · show Og m.ow m.vw _ _
          rw [how]
          exact hput.kept fs (fun e => hgs e)
        · have := hm.wi.turn (by omega) x
          rw [← hq] at this
          exact this
        · exact o2.kept fa (fun k hk e => by
            rcases e with e | e
            · exact (no2 k hk).2.2 (by rw [how, e])
            · exact (no2 k hk).2.1 e)
        · simp [Sx.put]; omega
        · have := hm.td
          simp [Sx.put]; omega
        · exact rr2.kept fa (fun e => by
            rcases e with e | e
            · exact h.rw (by rw [how, e])
            · exact h.re e) (fun k hk => by
            rcases hk with e | e
            · rw [e]; exact hgk
            · rw [e]; exact hm.ks)
        · exact f2.trans (fa.mono (fun i hi => .inl (by
            rcases hi with e | e
            · rw [e]; exact hgk
            · rw [e]; exact hm.ks)))
      obtain ⟨c40, c41⟩ := c4
      obtain ⟨c50, c51⟩ := c5
      obtain ⟨d40, d41⟩ := d4
      obtain ⟨e0, e1⟩ := hat
      rw [hvw] at c50
      have HW2 : Hid (W1.setCell ⟨sb, 6, none⟩ (.slice a1 (s.out.length - told + 1) c1) = W2) := hW2.symm
      have HW4 : Hid (W2.setCell ⟨g, q, none⟩ (.int .u8 z) = W4) := hW4.symm
      have hz2 : ¬ (s.out.length : Int) < 32768 := by omega
      have hz3 : s.out.length ≤ 4194304 := by omega
      have hmod : (s.out.length : Int).tmod 32768 = (q : Int) := by
        rw [Int.tmod_eq_emod_of_nonneg (by omega)]; omega
      have hmod2 : (s.out.length : Int) % 32768 = (q : Int) := by omega
      have hqi : (q : Int) < 32768 := by omega
      rw [hwl2] at c50
      have HD : Hid (∀ n, (W4.drewN n).cell? ⟨sb, 4, none⟩ = some (.int .i64 s.out.length) ∧ (W4.drewN n).frozen? ⟨sb, 4, none⟩ = false) := fun n => ⟨d40, d41⟩
      generalize (m.wl[q]'(by omega)).toNat = u0 at *
      clear hP h hm r2 o2 ow2 rr2 cc2 f2 no2 nr2 k1 k4 hW2 r4 r5 hlt2 hlp hvp hvw hwl hz hsm how hOw hput hvg hwl2 f4 hW4 hq
      generalize s.out.length - told + 1 = n1 at *
      generalize s.out.length - told = n0 at *
      generalize s.out.length = size at *
      go_enter Tryz.func188, Tryz.ntmps188
      go_upto_region 1 with (first
        | (at_builtin; refine Lib.wpList_append_run _ rfl _ _ 22 22 rfl (.slice pa n0 pc) (.slice (some ⟨w.heap.size, 0, none⟩) 1 1) (by simp [Act.eval]) (by simp [Act.eval]) _ _ (HAP1.out _) ?_))
      rw [HW2.out]
      clear HW2 HAP1 k2 k3
      go_wp2_with fail
      go_region
      go_wp2_with fail
      go_end0
      have HF2 := fun r => HF.out r 1
      rw [← HW4.out] at HF2
      exact HF2 _
end Go.Proofs.YtpjnbhflnbhnoaaGreatDoor

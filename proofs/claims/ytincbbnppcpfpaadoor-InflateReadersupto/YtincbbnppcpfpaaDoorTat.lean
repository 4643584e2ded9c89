import Derived.Test.YtincbbnppcpfpaaDoorTas
import Derived.Deep.RegionWith
namespace Go.Proofs.YtincbbnppcpfpaaDoor
open Go.RowKit
set_option linter.unusedVariables false
variable {sb rb : Nat} {X : Nat → Prop} {v : Value} {b : List By} {p : Nat} {w : World}
/-- A region without operations: what is left to a walk where a callee has panicked. -/
def Idle : Prop := wpAny Tryd.prog Region.Mode.any #[] (fun _ _ _ => True) 0 #[] { tmps := #[], defers := [] } default
theorem idle_of {P : Ending → World → Prop} {fn : Func} {ch : _} {a : Act} {w : World} (h : a.defers = [] ∧ P (.panicked ch) w) (_ : Idle) : bodyPost Tryd.prog fn P (.panic ch) a w := h
theorem w64 (k : Nat) (h : k ≤ 1000000000000) : IntKind.i64.wrap (k : Int) = (k : Int) := by rw [IntKind.wrap_i64]; omega
theorem takeR_lt {n x : Nat} {t t' : Bt} (h : takeR n t = .ok (x, t')) : x < 2 ^ n := by
  unfold takeR at h
  split at h
  · cases h
  · injection h with h
    injection h with h
    rw [← h]
    exact Nat.mod_lt _ (Nat.pow_pos (by decide))
set_option maxHeartbeats 16000000 in
theorem further4_any (h : Lt sb rb X v b p w) (y : Nat) (hy : y ≤ 31) : Calls Tryd.prog 83 #[.pointer (some ⟨sb, 0, none⟩), .int .i64 y, .int .i64 4] w (Ri sb rb X v b w (furR y 4 (bt b p))) := by
  obtain ⟨P, hP⟩ : ∃ P : Ending → World → Prop, P = Ri sb rb X v b w (furR y 4 (bt b p)) := ⟨_, rfl⟩
  rw [← hP]
  by_cases hlt : y < 4
  · have HF : Hid (P (.returned (.int .i64 y)) w) := by
      show P _ _
      rw [hP, furR, if_pos hlt]; exact .inr ⟨y, p, rfl, rfl, h, Fr.refl _ _⟩
    have hz : (y : Int) < 4 := by omega
    clear hP h
    go_enter Tryd.func83, Tryd.ntmps83
    go_wp2
    exact HF.out
  · obtain ⟨n, hn⟩ : ∃ n, n = y / 4 - 1 := ⟨_, rfl⟩
    obtain ⟨r, hr⟩ : ∃ r, r = y % 4 := ⟨_, rfl⟩
    have hn32 : n ≤ 15 := by omega
    have hfu : furR y 4 = bindR (takeR n) fun v => retR ((4 + r) * 2 ^ n + v) := by rw [furR, if_neg hlt, ← hn, ← hr]
    rw [hfu] at hP
    have hz : ¬ (y : Int) < 4 := by omega
    have hdiv : (y : Int) / 4 - 1 = (n : Int) := by omega
    have hmod : (y : Int).tmod 4 = (r : Int) := by
      rw [Int.tmod_eq_emod_of_nonneg (by omega)]; omega
    have hr4 : r < 4 := by omega
    obtain ⟨m, hm⟩ : ∃ m, m = (4 + r) * 2 ^ n := ⟨_, rfl⟩
    have hpw : 2 ^ n ≤ 2 ^ 15 := Nat.pow_le_pow_right (by decide) hn32
    have hml : m ≤ 262144 := by
      rw [hm]
      have : (4 + r) * 2 ^ n ≤ 8 * 2 ^ 15 := Nat.mul_le_mul (by omega) hpw
      omega
    have hmi : ((4 : Int) + (r : Int)) * 2 ^ n = (m : Int) := by rw [hm]; push_cast; rfl
    rw [← hm] at hP
    have hN := fun V (hV : Nw w V) => jnumber_any (h.nw hV) n (by omega) n rfl
    cases hq : takeR n (bt b p) with
    | bad q =>
      have HN : Hid (∀ V, Nw w V → Calls Tryd.prog 60 #[.pointer (some ⟨sb, 0, none⟩), .int .i64 n] V fun e w' => e = gv q ∧ Hid (P (gv q) w')) := fun V hV => (hN V hV).mono (fun e w' hh => by
        obtain ⟨h1, h2⟩ := hh.isBad hq
        refine ⟨h1, ?_⟩
        show P _ _
        rw [hP]; exact .inl ⟨q, bindR_bad hq, rfl, hV.any.trans h2⟩)
      have hN0 : Nw w w := Fr.refl _ _
      clear hP h hN hq hfu hn hr hm
      go_enter Tryd.func83, Tryd.ntmps83
      go_wp2_with fail
      go_region_with (first
          | (go_at_call 60; with_reducible refine (HN.out _ ?_).mono ?_; (first | assumption | exact (Fr.refl _ _).drew | exact Fr.refl _ _ | exact (Fr.refl _ _).drewN _); rintro e w3 ⟨rfl, HF⟩; (try dsimp only); apply idle_of ⟨rfl, HF.out⟩; unfold Idle))
      all_goals trivial
    | ok r2 =>
      obtain ⟨x, t⟩ := r2
      have hxl : x < 2 ^ 15 := Nat.lt_of_lt_of_le (takeR_lt hq) hpw
      have hxl' : x < 32768 := hxl
      have HN : Hid (∀ V, Nw w V → Calls Tryd.prog 60 #[.pointer (some ⟨sb, 0, none⟩), .int .i64 n] V fun e w' => e = .returned (.int .i64 x) ∧ Hid (∀ W z, z = ((m + x : Nat) : Int) → Nw w' W → P (.returned (.int .i64 z)) W)) := fun V hV => (hN V hV).mono (fun e w' hh => by
        obtain ⟨p', h1, h2, h3, h4⟩ := hh.isOk hq
        refine ⟨h2, fun W z hz hW => ?_⟩
        rw [hz, hP, bindR_eq hq]; exact .inr ⟨m + x, p', by rw [← h1]; rfl, rfl, h3.nw hW, (hV.any.trans h4).trans hW.any⟩)
      have hN0 : Nw w w := Fr.refl _ _
      have hsum : (m : Int) + (x : Int) = ((m + x : Nat) : Int) := by omega
      have hmx : m + x ≤ 294912 := by omega
      generalize m + x = mx at *
      have HE : Hid (IntKind.i64.wrap (IntKind.i64.wrap (IntKind.i64.wrap ((4 : Int) + (r : Int)) * 2 ^ n) + (x : Int)) = (mx : Int)) := by
        show _ = _
        have e1 : (4 : Int) + (r : Int) = ((4 + r : Nat) : Int) := by omega
        rw [e1, w64 _ (by omega), ← e1, hmi, w64 _ (by omega), hsum, w64 _ (by omega)]
      clear hP h hN hq hfu hn hr hm hxl
      go_enter Tryd.func83, Tryd.ntmps83
      go_wp2_with fail
      go_region_with (first
          | (go_at_call 60; with_reducible refine (HN.out _ ?_).mono ?_; (first | assumption | exact (Fr.refl _ _).drew | exact Fr.refl _ _ | exact (Fr.refl _ _).drewN _); rintro e w3 ⟨rfl, HF⟩))
      all_goals simp [Act.put, go_sem]
      all_goals go_wp2_with fail
      all_goals refine HF.out _ _ ?_ (Fr.refl _ _)
      all_goals exact HE.out
set_option maxHeartbeats 16000000 in
theorem further2_any (h : Lt sb rb X v b p w) (y : Nat) (hy : y ≤ 31) : Calls Tryd.prog 83 #[.pointer (some ⟨sb, 0, none⟩), .int .i64 y, .int .i64 2] w (Ri sb rb X v b w (furR y 2 (bt b p))) := by
  obtain ⟨P, hP⟩ : ∃ P : Ending → World → Prop, P = Ri sb rb X v b w (furR y 2 (bt b p)) := ⟨_, rfl⟩
  rw [← hP]
  by_cases hlt : y < 2
  · have HF : Hid (P (.returned (.int .i64 y)) w) := by
      show P _ _
      rw [hP, furR, if_pos hlt]; exact .inr ⟨y, p, rfl, rfl, h, Fr.refl _ _⟩
    have hz : (y : Int) < 2 := by omega
    clear hP h
    go_enter Tryd.func83, Tryd.ntmps83
    go_wp2
    exact HF.out
  · obtain ⟨n, hn⟩ : ∃ n, n = y / 2 - 1 := ⟨_, rfl⟩
    obtain ⟨r, hr⟩ : ∃ r, r = y % 2 := ⟨_, rfl⟩
    have hn32 : n ≤ 15 := by omega
    have hfu : furR y 2 = bindR (takeR n) fun v => retR ((2 + r) * 2 ^ n + v) := by rw [furR, if_neg hlt, ← hn, ← hr]
    rw [hfu] at hP
    have hz : ¬ (y : Int) < 2 := by omega
    have hdiv : (y : Int) / 2 - 1 = (n : Int) := by omega
    have hmod : (y : Int).tmod 2 = (r : Int) := by
      rw [Int.tmod_eq_emod_of_nonneg (by omega)]; omega
    have hr4 : r < 2 := by omega
    obtain ⟨m, hm⟩ : ∃ m, m = (2 + r) * 2 ^ n := ⟨_, rfl⟩
    have hpw : 2 ^ n ≤ 2 ^ 15 := Nat.pow_le_pow_right (by decide) hn32
    have hml : m ≤ 262144 := by
      rw [hm]
      have : (2 + r) * 2 ^ n ≤ 8 * 2 ^ 15 := Nat.mul_le_mul (by omega) hpw
      omega
    have hmi : ((2 : Int) + (r : Int)) * 2 ^ n = (m : Int) := by rw [hm]; push_cast; rfl
    rw [← hm] at hP
    have hN := fun V (hV : Nw w V) => jnumber_any (h.nw hV) n (by omega) n rfl
    cases hq : takeR n (bt b p) with
    | bad q =>
      have HN : Hid (∀ V, Nw w V → Calls Tryd.prog 60 #[.pointer (some ⟨sb, 0, none⟩), .int .i64 n] V fun e w' => e = gv q ∧ Hid (P (gv q) w')) := fun V hV => (hN V hV).mono (fun e w' hh => by
        obtain ⟨h1, h2⟩ := hh.isBad hq
        refine ⟨h1, ?_⟩
        show P _ _
        rw [hP]; exact .inl ⟨q, bindR_bad hq, rfl, hV.any.trans h2⟩)
      have hN0 : Nw w w := Fr.refl _ _
      clear hP h hN hq hfu hn hr hm
      go_enter Tryd.func83, Tryd.ntmps83
      go_wp2_with fail
      go_region_with (first
          | (go_at_call 60; with_reducible refine (HN.out _ ?_).mono ?_; (first | assumption | exact (Fr.refl _ _).drew | exact Fr.refl _ _ | exact (Fr.refl _ _).drewN _); rintro e w3 ⟨rfl, HF⟩; (try dsimp only); apply idle_of ⟨rfl, HF.out⟩; unfold Idle))
      all_goals trivial
    | ok r2 =>
      obtain ⟨x, t⟩ := r2
      have hxl : x < 2 ^ 15 := Nat.lt_of_lt_of_le (takeR_lt hq) hpw
      have hxl' : x < 32768 := hxl
      have HN : Hid (∀ V, Nw w V → Calls Tryd.prog 60 #[.pointer (some ⟨sb, 0, none⟩), .int .i64 n] V fun e w' => e = .returned (.int .i64 x) ∧ Hid (∀ W z, z = ((m + x : Nat) : Int) → Nw w' W → P (.returned (.int .i64 z)) W)) := fun V hV => (hN V hV).mono (fun e w' hh => by
        obtain ⟨p', h1, h2, h3, h4⟩ := hh.isOk hq
        refine ⟨h2, fun W z hz hW => ?_⟩
        rw [hz, hP, bindR_eq hq]; exact .inr ⟨m + x, p', by rw [← h1]; rfl, rfl, h3.nw hW, (hV.any.trans h4).trans hW.any⟩)
      have hN0 : Nw w w := Fr.refl _ _
      have hsum : (m : Int) + (x : Int) = ((m + x : Nat) : Int) := by omega
      have hmx : m + x ≤ 294912 := by omega
      generalize m + x = mx at *
      have HE : Hid (IntKind.i64.wrap (IntKind.i64.wrap (IntKind.i64.wrap ((2 : Int) + (r : Int)) * 2 ^ n) + (x : Int)) = (mx : Int)) := by
        show _ = _
        have e1 : (2 : Int) + (r : Int) = ((2 + r : Nat) : Int) := by omega
        rw [e1, w64 _ (by omega), ← e1, hmi, w64 _ (by omega), hsum, w64 _ (by omega)]
      clear hP h hN hq hfu hn hr hm hxl
      go_enter Tryd.func83, Tryd.ntmps83
      go_wp2_with fail
      go_region_with (first
          | (go_at_call 60; with_reducible refine (HN.out _ ?_).mono ?_; (first | assumption | exact (Fr.refl _ _).drew | exact Fr.refl _ _ | exact (Fr.refl _ _).drewN _); rintro e w3 ⟨rfl, HF⟩))
      all_goals simp [Act.put, go_sem]
      all_goals go_wp2_with fail
      all_goals refine HF.out _ _ ?_ (Fr.refl _ _)
      all_goals exact HE.out
set_option maxHeartbeats 8000000 in
theorem length_any (h : Lt sb rb X v b p w) (y : Nat) (h1 : 257 ≤ y) (h2 : y ≤ 285) : Calls Tryd.prog 71 #[.pointer (some ⟨sb, 0, none⟩), .int .i64 y] w (Ri sb rb X v b w (lenR y (bt b p))) := by
  obtain ⟨P, hP⟩ : ∃ P : Ending → World → Prop, P = Ri sb rb X v b w (lenR y (bt b p)) := ⟨_, rfl⟩
  rw [← hP]
  by_cases h5 : y = 285
  · subst h5
    have HF : Hid (P (.returned (.int .i64 258)) w) := by
      show P _ _
      rw [hP, lenR, if_pos rfl]; exact .inr ⟨258, p, rfl, rfl, h, Fr.refl _ _⟩
    clear hP h
    go_enter Tryd.func71, Tryd.ntmps71
    go_wp2
    exact HF.out
  · rw [lenR, if_neg h5] at hP
    have hN := further4_any h (y - 257) (by omega)
    obtain ⟨z, hz⟩ : ∃ z, z = y - 257 := ⟨_, rfl⟩
    rw [← hz] at hN hP
    have hzi : (y : Int) - 256 - 1 = (z : Int) := by omega
    have hy : ((y : Int) == 285) = false := by simp; omega
    cases hq : furR z 4 (bt b p) with
    | bad q =>
      have HN : Hid (Calls Tryd.prog 83 #[.pointer (some ⟨sb, 0, none⟩), .int .i64 z, .int .i64 4] w fun e w' => e = gv q ∧ Hid (P (gv q) w')) := hN.mono (fun e w' hh => by
        obtain ⟨h1, h2⟩ := hh.isBad hq
        refine ⟨h1, ?_⟩
        show P _ _
        rw [hP]; exact .inl ⟨q, bindR_bad hq, rfl, h2⟩)
      clear hP h hN hq hz
      go_enter Tryd.func71, Tryd.ntmps71
      go_wp2_with (first | (go_at_call 83; (with_reducible refine HN.out.mono ?_); rintro e w2 ⟨rfl, HF⟩))
      exact ⟨rfl, HF.out⟩
    | ok r2 =>
      obtain ⟨x, t⟩ := r2
      have hxl : x ≤ 294912 := by
        unfold furR at hq
        split at hq
        · injection hq with hq; injection hq with hq; omega
        · obtain ⟨a, t1, q1, q2⟩ := bindR_ok hq
          injection q2 with q2
          injection q2 with q2
          have k1 := takeR_lt q1
          have k2 : 2 ^ (z / 4 - 1) ≤ 2 ^ 15 := Nat.pow_le_pow_right (by decide) (by omega)
          have k3 : (4 + z % 4) * 2 ^ (z / 4 - 1) ≤ 8 * 2 ^ 15 := Nat.mul_le_mul (by omega) k2
          omega
      have HN : Hid (Calls Tryd.prog 83 #[.pointer (some ⟨sb, 0, none⟩), .int .i64 z, .int .i64 4] w fun e w' => e = .returned (.int .i64 x) ∧ Hid (P (.returned (.int .i64 (3 + x : Nat))) w')) := hN.mono (fun e w' hh => by
        obtain ⟨p', h1, h2, h3, h4⟩ := hh.isOk hq
        refine ⟨h2, ?_⟩
        show P _ _
        rw [hP, bindR_eq hq]; exact .inr ⟨3 + x, p', by rw [← h1]; rfl, rfl, h3, h4⟩)
      have hsum : (3 : Int) + (x : Int) = ((3 + x : Nat) : Int) := by omega
      have hmx : 3 + x ≤ 294916 := by omega
      generalize 3 + x = mx at *
      clear hP h hN hq hz
      go_enter Tryd.func71, Tryd.ntmps71
      go_wp2_with (first | (go_at_call 83; (with_reducible refine HN.out.mono ?_); rintro e w2 ⟨rfl, HF⟩))
      exact HF.out
/-- How far a distance reaches. -/
theorem furR2_le {z x : Nat} {t t' : Bt} (hz : z ≤ 29) (hq : furR z 2 t = .ok (x, t')) : x < 32768 := by
  unfold furR at hq
  split at hq
  · injection hq with hq; injection hq with hq; omega
  · obtain ⟨a, t1, q1, q2⟩ := bindR_ok hq
    injection q2 with q2
    injection q2 with q2
    have k1 := takeR_lt q1
    have k2 : 2 ^ (z / 2 - 1) ≤ 2 ^ 13 := Nat.pow_le_pow_right (by decide) (by omega)
    have k3 : (2 + z % 2) * 2 ^ (z / 2 - 1) ≤ 3 * 2 ^ 13 := Nat.mul_le_mul (by omega) k2
    omega
theorem distR_le {lb : List Nat} {x : Nat} {t t' : Bt} (hq : distR lb t = .ok (x, t')) : 1 ≤ x ∧ x ≤ 32768 := by
  obtain ⟨a, t1, q1, q2⟩ := bindR_ok hq
  split at q2
  · cases q2
  · obtain ⟨a2, t2, q3, q4⟩ := bindR_ok q2
    have := furR2_le (by omega) q3
    injection q4 with q4
    injection q4 with q4
    omega
theorem symR_lt {ls : List Nat} {x : Nat} {t t' : Bt} (hq : symR ls t = .ok (x, t')) : x < ls.length ∧ Cod ls := by
  by_cases hx : Cod ls ∧ ∃ i, Hits ls (rev 15 t.x) i
  · obtain ⟨hk, i, hi⟩ := hx
    rw [symR_hit hk hi] at hq
    split at hq
    · cases hq
    · injection hq with hq
      injection hq with hq
      rw [← hq]; exact ⟨hi.1, hk⟩
  · rw [symR_none (fun i hk hi => hx ⟨hk, i, hi⟩)] at hq; cases hq
set_option maxHeartbeats 8000000 in
theorem distance_any {C : Nat → Prop} {u : Value} {lb : List Nat} (h : Lt sb rb X v b p w) (hu : w.cell? ⟨sb, 11, none⟩ = some u) (hc : CodV C u lb w) (hr : ¬ C rb) : Calls Tryd.prog 82 #[.pointer (some ⟨sb, 0, none⟩)] w (Ri sb rb X v b w (distR lb (bt b p))) := by
  obtain ⟨P, hP⟩ : ∃ P : Ending → World → Prop, P = Ri sb rb X v b w (distR lb (bt b p)) := ⟨_, rfl⟩
  rw [← hP]
  have hW := jword_any h hc hr
  have hu' : ∃ a, u = .pointer a := by
    rcases hc with ⟨rfl, _⟩ | ⟨cb, _, _, _, _, rfl, _⟩
    · exact ⟨_, rfl⟩
    · exact ⟨_, rfl⟩
  obtain ⟨ua, rfl⟩ := hu'
  cases hq : symR lb (bt b p) with
  | bad q =>
    have HN : Hid (Calls Tryd.prog 68 #[.pointer (some ⟨sb, 0, none⟩), .pointer ua] w fun e w' => e = gv q ∧ Hid (P (gv q) w')) := hW.mono (fun e w' hh => by
      obtain ⟨h1, h2⟩ := hh.isBad hq
      refine ⟨h1, ?_⟩
      show P _ _
      rw [hP]; exact .inl ⟨q, bindR_bad hq, rfl, h2⟩)
    clear hP h hW hq hc
    go_enter Tryd.func82, Tryd.ntmps82
    go_wp2_with (first | (go_at_call 68; (with_reducible refine HN.out.mono ?_); rintro e w2 ⟨rfl, HF⟩))
    exact ⟨rfl, HF.out⟩
  | ok r2 =>
    obtain ⟨y, t⟩ := r2
    have hyl : y < 320 := by
      have := symR_lt hq
      have := this.2.len
      omega
    have hd : distR lb (bt b p) = (if 29 < y then failR 63 else bindR (furR y 2) fun v => retR (1 + v)) t := bindR_eq hq
    by_cases hy : 29 < y
    · rw [if_pos hy] at hd
      have HN : Hid (Calls Tryd.prog 68 #[.pointer (some ⟨sb, 0, none⟩), .pointer ua] w fun e w' => e = .returned (.int .i64 y) ∧ Hid (P (gv 63) w')) := hW.mono (fun e w' hh => by
        obtain ⟨p', h1, h2, h3, h4⟩ := hh.isOk hq
        refine ⟨h2, ?_⟩
        show P _ _
        rw [hP, hd]; exact .inl ⟨63, rfl, rfl, h4⟩)
      have HG : Hid (∀ V, Calls Tryd.prog 64 #[.int .i64 63] V fun e w' => e = gv 63 ∧ w' = V) := fun V => giveUp_any 63 V
      have hz : 29 < (y : Int) := by omega
      clear hP h hW hq hc hd
      go_enter Tryd.func82, Tryd.ntmps82
      go_wp2_with (first | (go_at_call 68; (with_reducible refine HN.out.mono ?_); rintro e w2 ⟨rfl, HF⟩) | (go_at_call 64; (with_reducible refine (HG.out _).mono ?_); rintro e w3 ⟨rfl, rfl⟩))
      exact ⟨rfl, HF.out⟩
    · rw [if_neg hy] at hd
      have hz : ¬ 29 < (y : Int) := by omega
      cases hq2 : furR y 2 t with
      | bad q =>
        have HN : Hid (Calls Tryd.prog 68 #[.pointer (some ⟨sb, 0, none⟩), .pointer ua] w fun e w1 => e = .returned (.int .i64 y) ∧ Hid (Calls Tryd.prog 83 #[.pointer (some ⟨sb, 0, none⟩), .int .i64 y, .int .i64 2] w1 fun e w' => e = gv q ∧ Hid (P (gv q) w'))) := hW.mono (fun e w1 hh => by
          obtain ⟨p', h1, h2, h3, h4⟩ := hh.isOk hq
          refine ⟨h2, ?_⟩
          show Calls _ _ _ _ _
          rw [h1] at hq2
          refine (further2_any h3 y (by omega)).mono (fun e w' h5 => ?_)
          obtain ⟨h6, h7⟩ := h5.isBad hq2
          refine ⟨h6, ?_⟩
          show P _ _
          rw [hP, hd, h1, bindR_bad hq2]; exact .inl ⟨q, rfl, rfl, h4.trans h7⟩)
        clear hP h hW hq hc hd hq2
        go_enter Tryd.func82, Tryd.ntmps82
        go_wp2_with (first | (go_at_call 68; (with_reducible refine HN.out.mono ?_); rintro e w2 ⟨rfl, HD⟩) | (go_at_call 83; (with_reducible refine HD.out.mono ?_); rintro e w3 ⟨rfl, HF⟩))
        exact ⟨rfl, HF.out⟩
      | ok r3 =>
        obtain ⟨x, t3⟩ := r3
        have hxl := furR2_le (by omega) hq2
        have HN : Hid (Calls Tryd.prog 68 #[.pointer (some ⟨sb, 0, none⟩), .pointer ua] w fun e w1 => e = .returned (.int .i64 y) ∧ Hid (Calls Tryd.prog 83 #[.pointer (some ⟨sb, 0, none⟩), .int .i64 y, .int .i64 2] w1 fun e w' => e = .returned (.int .i64 x) ∧ Hid (P (.returned (.int .i64 (1 + x : Nat))) w'))) := hW.mono (fun e w1 hh => by
          obtain ⟨p', h1, h2, h3, h4⟩ := hh.isOk hq
          refine ⟨h2, ?_⟩
          show Calls _ _ _ _ _
          rw [h1] at hq2
          refine (further2_any h3 y (by omega)).mono (fun e w' h5 => ?_)
          obtain ⟨p2, h6, h7, h8, h9⟩ := h5.isOk hq2
          refine ⟨h7, ?_⟩
          show P _ _
          rw [hP, hd, h1, bindR_eq hq2]; exact .inr ⟨1 + x, p2, by rw [← h6]; rfl, rfl, h8, h4.trans h9⟩)
        have hsum : (1 : Int) + (x : Int) = ((1 + x : Nat) : Int) := by omega
        have hmx : 1 + x ≤ 32768 := by omega
        generalize 1 + x = mx at *
        clear hP h hW hq hc hd hq2
        go_enter Tryd.func82, Tryd.ntmps82
        go_wp2_with (first | (go_at_call 68; (with_reducible refine HN.out.mono ?_); rintro e w2 ⟨rfl, HD⟩) | (go_at_call 83; (with_reducible refine HD.out.mono ?_); rintro e w3 ⟨rfl, HF⟩))
        exact HF.out
set_option maxHeartbeats 8000000 in
theorem need_any (n most size : Nat) (h3 : w.cell? ⟨sb, 3, none⟩ = some (.int .i64 most)) (h4 : w.cell? ⟨sb, 4, none⟩ = some (.int .i64 size)) (hm : most ≤ 4194304) (hs : size ≤ most) (hn : n ≤ 4294967296) (z : Int) (hz : z = n) :
    Calls Tryd.prog 69 #[.pointer (some ⟨sb, 0, none⟩), .int .i64 z] w fun e w' => (if most - size < n then e = gv 32 else ∃ r, e = .returned r) ∧ Nw w w' := by
  subst hz
  obtain ⟨P, hP⟩ : ∃ P : Ending → World → Prop, P = fun e w' => (if most - size < n then e = gv 32 else ∃ r, e = .returned r) ∧ Nw w w' := ⟨_, rfl⟩
  rw [← hP]
  by_cases hlt : most - size < n
  · have HF : Hid (∀ V, Nw w V → P (gv 32) V) := fun V hV => by rw [hP]; exact ⟨by rw [if_pos hlt], hV⟩
    have HG : Hid (∀ V, Calls Tryd.prog 64 #[.int .i64 32] V fun e w' => e = gv 32 ∧ w' = V) := fun V => giveUp_any 32 V
    have hz : (most : Int) - (size : Int) < (n : Int) := by omega
    clear hP
    go_enter Tryd.func69, Tryd.ntmps69
    go_wp2_with fail
    go_quiet (fail)
    go_wp2_with (first | (go_at_call 64; (with_reducible refine (HG.out _).mono ?_); rintro e w3 ⟨rfl, rfl⟩))
    exact ⟨rfl, HF.out _ ((Fr.refl _ _).drewN _)⟩
  · have HF : Hid (∀ V r, Nw w V → P (.returned r) V) := fun V r hV => by rw [hP]; exact ⟨by rw [if_neg hlt]; exact ⟨_, rfl⟩, hV⟩
    have hz : ¬ (most : Int) - (size : Int) < (n : Int) := by omega
    clear hP
    go_enter Tryd.func69, Tryd.ntmps69
    go_wp2_with fail
    go_quiet (fail)
    go_wp2_with fail
    go_end0
    exact HF.out _ _ ((Fr.refl _ _).drewN _)
end Go.Proofs.YtincbbnppcpfpaaDoor

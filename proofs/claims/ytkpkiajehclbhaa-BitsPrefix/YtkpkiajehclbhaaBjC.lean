import Derived.Test.YtkpkiajehclbhaaBjB
namespace Go.Proofs.Ytkpkiajehclbhaa
open Go.RowKit
set_option linter.unusedVariables false
variable {wb : Nat} {og : Option Nat} {V n : Nat} {w : World}
/-- Whether Put takes it. -/
def puts (v : Nat) (n : Int) : Bool := decide (0 ≤ n) && decide (n ≤ 32) && decide (v < 2 ^ n.toNat)
theorem puts_no {v : Nat} {n : Int} (h : puts v n = false) : n < 0 ∨ 32 < n ∨ ∃ m : Nat, n = m ∧ m ≤ 32 ∧ 2 ^ m ≤ v := by
  by_cases h1 : n < 0
  · exact .inl h1
  by_cases h2 : 32 < n
  · exact .inr (.inl h2)
  refine .inr (.inr ⟨n.toNat, by omega, by omega, ?_⟩)
  rcases Nat.lt_or_ge v (2 ^ n.toNat) with h3 | h3
  · exfalso
    have : puts v n = true := by
      unfold puts
      rw [decide_eq_true (show 0 ≤ n by omega), decide_eq_true (show n ≤ 32 by omega), decide_eq_true h3]; rfl
    rw [this] at h; cases h
  · exact h3
theorem puts_yes {v : Nat} {n : Int} (h : puts v n = true) : ∃ m : Nat, n = m ∧ m ≤ 32 ∧ v < 2 ^ m := by
  unfold puts at h
  simp only [Bool.and_eq_true, decide_eq_true_eq] at h
  exact ⟨n.toNat, by omega, by omega, h.2⟩
set_option maxHeartbeats 8000000 in
theorem bput_no (v : Nat) (hv : v < 4294967296) (n : Int) (hp : puts v n = false) (wb : Nat) (w : World) : Calls Try.prog 23 #[.pointer (some ⟨wb, 0, none⟩), .int .u32 v, .int .i64 n] w fun e w' => e = .returned (.int .i64 1) ∧ w' = w := by
  obtain ⟨P, hP⟩ : ∃ P : Ending → World → Prop, P = fun e w' => e = .returned (.int .i64 1) ∧ w' = w := ⟨_, rfl⟩
  rw [← hP]
  have HF : Hid (P (.returned (.int .i64 1)) w) := by
    show P _ _
    rw [hP]; exact ⟨rfl, rfl⟩
  have hc := puts_no hp
  clear hP hp
  rcases hc with h1 | h1 | ⟨m, rfl, hm, hvm⟩
  · go_enter Try.func23, Try.ntmps23
    go_wp2
    exact HF.out
  · have h2 : ¬ n < 0 := by omega
    go_enter Try.func23, Try.ntmps23
    go_wp2
    exact HF.out
  · obtain ⟨q, hq⟩ : ∃ q, q = v / 2 ^ m := ⟨_, rfl⟩
    have hq0 : 0 < q := by rw [hq]; exact Nat.div_pos hvm (Nat.pow_pos (by decide))
    have hqi : (v : Int) / 2 ^ m = (q : Int) := by rw [hq]; push_cast; rfl
    have hqn : ((q : Int) != 0) = true := by simp; omega
    have hqn2 : ¬ (q : Int) = 0 := by omega
    have h2 : ¬ (32 : Int) < (m : Int) := by omega
    have h3 : ¬ (m : Int) < 0 := by omega
    clear hq hvm
    go_enter Try.func23, Try.ntmps23
    go_wp2
    exact HF.out
set_option maxHeartbeats 8000000 in
set_option maxRecDepth 100000 in
theorem bput_yes (h : Wr wb og V n w) (hn : n ≤ 999999999999000) (v : Nat) (hv : v < 4294967296) (m : Nat) (hm : m ≤ 32) (hvm : v < 2 ^ m) : Calls Try.prog 23 #[.pointer (some ⟨wb, 0, none⟩), .int .u32 v, .int .i64 m] w fun e w' => e = .returned (.int .i64 0) ∧ ∃ og', Wr wb og' (V + v * 2 ^ n) (n + m) w' ∧ Fr (fun k => k = wb ∨ og = some k) w w' ∧ Went og og' w := by
  obtain ⟨P, hP⟩ : ∃ P : Ending → World → Prop, P = fun e w' => e = .returned (.int .i64 0) ∧ ∃ og', Wr wb og' (V + v * 2 ^ n) (n + m) w' ∧ Fr (fun k => k = wb ∨ og = some k) w w' ∧ Went og og' w := ⟨_, rfl⟩
  rw [← hP]
  have hwb := h.lt
  obtain ⟨Vf, hVf⟩ : ∃ Vf, Vf = V + v * 2 ^ n := ⟨_, rfl⟩
  obtain ⟨Nf, hNf⟩ : ∃ Nf, Nf = n + m := ⟨_, rfl⟩
  have HF : Hid (∀ W og' V' n', PtI wb og Vf Nf w 0 0 og' V' n' W → P (.returned (.int .i64 0)) W) := by
    rintro W og' V' n' ⟨k1, k2, k3, k4, k5, k6⟩
    rw [hP]
    refine ⟨rfl, og', ?_, k5, k6⟩
    rw [← hVf, ← hNf, ← k2, ← k3, Nat.zero_mul, Nat.add_zero, Nat.add_zero]; exact k1
  have HI0 : Hid (PtI wb og Vf Nf w v m og V n w) := ⟨h, hVf.symm, hNf.symm, hvm, Fr.refl _ _, .inl rfl⟩
  have hNb : Nf ≤ 999999999999032 := by omega
  have hq0 : (v : Int) / 2 ^ m = 0 := by
    have : v / 2 ^ m = 0 := Nat.div_eq_of_lt hvm
    have e : (v : Int) / 2 ^ m = ((v / 2 ^ m : Nat) : Int) := by push_cast; rfl
    rw [e, this]; rfl
  have h2 : ¬ (32 : Int) < (m : Int) := by omega
  have h3 : ¬ (m : Int) < 0 := by omega
  have HW : Hid (wb < w.heap.size) := hwb
  clear hP h hVf hNf hvm hwb hn
  go_enter Try.func23, Try.ntmps23
  go_wp2
  go_loopg [1, 2] m (fun kx vv nn wr => ∃ (v j : Nat), j ≤ 32 ∧ j ≤ kx ∧ v < 4294967296 ∧ vv = .int .u32 v ∧ nn = .int .i64 j ∧ Hid (∃ og' V n, PtI wb og Vf Nf w v j og' V n wr))
  case atStart => exact ⟨v, m, hm, Nat.le_refl _, hv, rfl, rfl, ⟨og, V, n, HI0.out⟩⟩
  case round =>
    obtain ⟨v, j, hj, hkx, hv, rfl, rfl, HI⟩ := hrel
    clear HI0 hq0 h2 h3
    obtain ⟨og1, V1, n1, hI⟩ := HI.out
    by_cases hj0 : j = 0
    · subst hj0
      have hv0 : v = 0 := by have := hI.2.2.2.1; simp at this; exact this
      subst hv0
      have HF2 : Hid (P (.returned (.int .i64 0)) wr) := HF.out _ _ _ _ hI
      clear HI hI HF
      go_wp2_with fail
      exact HF2.out
    · obtain ⟨u, k, q, d, J, x, y, s, ⟨hu, hk, hq, hd, hJ, hx, hy, hs, hn1⟩, hor, x1, hmid⟩ := hI.round (by omega) HW.out hv (by omega)
      have hui : (n1 : Int) % 8 = (u : Int) := by omega
      have hu8 : u < 8 := by omega
      have hki : min (8 - (u : Int)) (j : Int) = (k : Int) := by omega
      have hkj : k ≤ j := by omega
      have hk32 : k ≤ 32 := by omega
      have hqi : (v : Int) / 2 ^ k = (q : Int) := by rw [hq]; push_cast; rfl
      have hqv : q < 4294967296 := Nat.lt_of_le_of_lt (by rw [hq]; exact Nat.div_le_self _ _) hv
      have hdi : (j : Int) - (k : Int) = (d : Int) := by omega
      have hdj : d < j := by omega
      have hsi : (n1 : Int) + (k : Int) = (s : Int) := by omega
      have hJ1 : J ≤ 999999999999032 := by omega
      have hj0' : (0 : Int) < (j : Int) := by omega
      have hor' : bits .or .u8 (x : Int) ((v : Int) * 2 ^ u % 256) = (y : Int) := by rw [← hor]; push_cast; rfl
      have HM : Hid _ := hmid
      obtain ⟨R, hRR⟩ : ∃ R : World → Prop, R = fun W => ∃ og' V n, PtI wb og Vf Nf w q d og' V n W := ⟨_, rfl⟩
      have HR : Hid (R = fun W => ∃ og' V n, PtI wb og Vf Nf w q d og' V n W) := hRR
      rw [← hRR] at hmid HM
      clear HI hI hu hk hq hd hJ hs hRR HF hmid hor
      go_upto_if 30 with fail
      go_cut [7] (fun t7 wx => t7 = .int .i64 u ∧ MidP wb J n1 x y s R wx)
      case first =>
        rcases HM.out with ⟨rfl, a, L, c, a3, L3, c3, W, y0, HAP, ⟨x2, y2⟩, y3, HMP⟩ | ⟨hu0, HMP⟩
        · clear HM
          go_wp2_with (first
            | (at_builtin; refine Lib.wpList_append_run _ rfl _ _ 22 22 rfl (.slice a L c) (.slice (some ⟨_, 0, none⟩) 1 1) (by simp [Act.eval]) (by simp [Act.eval]) _ _ (HAP.out _) ?_))
          go_meet
          exact ⟨by first | rfl | simp, HMP.out⟩
        · have hz : ((u : Int) == 0) = false := by simp; omega
          clear HM
          go_wp2_with fail
          go_meet
          exact ⟨by first | rfl | (rw [hui]), HMP.out⟩
      case rest =>
        obtain ⟨rfl, g, c, J1, hJ1e, z0, z1, z2, z3, z4, z5, HN⟩ := hcut
        have hJ1i : (J1 : Int) - 1 = (J : Int) := by omega
        have hJ1b : J1 ≤ 999999999999033 := by omega
        have hJJ : (J : Int) < (J1 : Int) := by omega
        clear HM hJ1e
        go_upto_region 7 with fail
        go_region
        obtain ⟨q1, q2, q3⟩ := HN.out (wc.setCell ⟨g, J, none⟩ (.int .u8 y)).drew ((Fr.refl _ _).drew)
        have HR3 : Hid (R ((wc.setCell ⟨g, J, none⟩ (.int .u8 y)).drew.setCell ⟨wb, 1, none⟩ (.int .i64 s))) := q3
        clear HN q3 z0 z1 z2 z3
        generalize (wc.setCell ⟨g, J, none⟩ (.int .u8 y)).drew = W5 at *
        go_wp2_with fail
        go_roundg d
        case measure => omega
        case rel => exact ⟨q, d, by omega, by omega, hqv, rfl, rfl, by have := HR3.out; rw [HR.out] at this; exact this⟩
end Go.Proofs.Ytkpkiajehclbhaa

import Derived.Test.YtegabbfdnpjkkaaRanU
namespace Go.Proofs.Ytegabbfdnpjkkaa
open Go.RowKit
set_option linter.unusedVariables false
set_option linter.unusedSimpArgs false

set_option maxHeartbeats 4000000 in
set_option maxRecDepth 100000 in
theorem same_any (a b : Value) (oa ob : Option Nat) (A : List Rg) (w : World) (ha : SVal a oa A w) (hb : SVal b ob A w) (hA : A.length ≤ 200000) :
    Calls Try.prog 29 #[a, b] w fun e w' => e = .returned (.bool true) ∧ Nw w w' := by
  obtain ⟨aa, ac, rfl, _, ham⟩ := ha.form
  obtain ⟨ba, bc, rfl, _, hbm⟩ := hb.form
  have HA : Hid (SVal (.slice aa A.length ac) oa A w) := ha
  have HB : Hid (SVal (.slice ba A.length bc) ob A w) := hb
  unfold maxLen at ham hbm
  clear ha hb
  go_enter Try.func29, Try.ntmps29
  go_wp2
  go_loopg [5] A.length (fun kx i wr => ∃ t : Nat, t ≤ A.length ∧ A.length - t ≤ kx ∧ i = .int .i64 t ∧ Nw w wr)
  case atStart => exact ⟨0, Nat.zero_le _, by omega, rfl, Fr.refl _ _⟩
  case round =>
    obtain ⟨t, ht, hkx, rfl, hN⟩ := hrel
    by_cases hlt : t < A.length
    · obtain ⟨g1, c1, _, hv1, _, d1, d2⟩ := (Nw.sval hN HA.out).get t hlt
      obtain ⟨g2, c2, _, hv2, _, d3, d4⟩ := (Nw.sval hN HB.out).get t hlt
      injection hv1 with hv1 _ hv3
      injection hv2 with hv2 _ hv4
      subst hv1 hv2 hv3 hv4
      generalize A[t] = y at d1 d2 d3 d4
      have hlz : (t : Int) < (A.length : Int) := by omega
      go_wp2_with fail
      go_quiet (fail)
      go_wp2
      go_roundg (A.length - (t + 1))
      case measure => omega
      case rel => exact ⟨t + 1, hlt, Nat.le_refl _, by go_num, Fr.drewN hN _⟩
    · go_wp2
      go_ret
      exact ⟨rfl, hN⟩

theorem tot_wrap (T a b : Int) (h1 : 0 ≤ T + (b - a)) (h2 : T + (b - a) ≤ 9223372036854775807) : wrap64 (wrap64 (T + b) - a) = T + (b - a) := by
  unfold wrap64; omega
theorem tot_wrap' (T a b : Int) (h1 : 0 ≤ T + (b - a)) (h2 : T + (b - a) ≤ 9223372036854775807) : IntKind.i64.wrap (IntKind.i64.wrap (T + b) - a) = T + (b - a) := by
  rw [IntKind.wrap_i64, IntKind.wrap_i64]; omega

set_option maxHeartbeats 4000000 in
set_option maxRecDepth 100000 in
theorem rtotal_any (lv : Value) (ol : Option Nat) (L : List Rg) (w : World) (h : SVal lv ol L w) (hL : L.length ≤ 200000) (hf : Fits L) :
    Calls Try.prog 31 #[lv] w fun e w' => e = .returned (.int .i64 (tot L)) ∧ Nw w w' := by
  obtain ⟨la, lc, rfl, _, hlm⟩ := h.form
  have H0 : Hid (SVal (.slice la L.length lc) ol L w) := h
  have HF : Hid (Fits L) := hf
  unfold maxLen at hlm
  clear h hf
  go_enter Try.func31, Try.ntmps31
  go_wp2
  go_loopg [3, 4] L.length (fun kx s i wr => ∃ t : Nat, t ≤ L.length ∧ L.length - t ≤ kx ∧ i = .int .i64 t ∧ s = .int .i64 (tot (L.take t)) ∧ Nw w wr)
  case atStart => exact ⟨0, Nat.zero_le _, by omega, rfl, rfl, Fr.refl _ _⟩
  case round =>
    obtain ⟨t, ht, hkx, rfl, rfl, hN⟩ := hrel
    by_cases hlt : t < L.length
    · obtain ⟨g1, c1, _, hv1, _, d1, d2⟩ := (Nw.sval hN H0.out).get t hlt
      injection hv1 with hv1 _ hv3
      subst hv1 hv3
      obtain ⟨t3, t4⟩ := HF.out.1 (t + 1) hlt
      have HT : Hid (tot (L.take (t + 1)) = tot (L.take t) + (L[t].2 - L[t].1)) := tot_take L t hlt
      rw [tot_take L t hlt] at t3 t4
      generalize L[t] = y at d1 d2 t3 t4 HT
      generalize tot (L.take t) = T at t3 t4 HT ⊢
      have HW1 : Hid (wrap64 (wrap64 (T + y.2) - y.1) = T + (y.2 - y.1)) := tot_wrap T y.1 y.2 t3 t4
      have HW2 : Hid (IntKind.i64.wrap (IntKind.i64.wrap (T + y.2) - y.1) = T + (y.2 - y.1)) := tot_wrap' T y.1 y.2 t3 t4
      have hlz : (t : Int) < (L.length : Int) := by omega
      clear t3 t4
      go_wp2_with fail
      go_quiet (fail)
      go_wp2
      go_roundg (L.length - (t + 1))
      case measure => omega
      case rel => exact ⟨t + 1, hlt, Nat.le_refl _, by go_num, by first | rw [HT.out, HW2.out] | rw [HT.out, HW1.out] | (rw [HT.out, ← HW2.out]; rfl) | (rw [HT.out, ← HW1.out]; rfl), Fr.drewN hN _⟩
    · obtain rfl : t = L.length := by omega
      rw [List.take_length]
      go_wp2
      go_ret
      exact ⟨rfl, hN⟩
end Go.Proofs.Ytegabbfdnpjkkaa

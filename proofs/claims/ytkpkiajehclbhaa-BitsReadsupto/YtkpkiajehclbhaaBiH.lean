import Derived.Test.YtkpkiajehclbhaaBiG
namespace Go.Proofs.Ytkpkiajehclbhaa
open Go.RowKit
set_option linter.unusedVariables false
variable {T : Nat} {K : Nat → Prop} {rb : Nat} {v : Value} {V N p : Nat} {w : World}
set_option maxHeartbeats 8000000 in
theorem salign_any (h : Rr 31 K rb v (bl V N) p w) (hp : p ≤ N) : Calls Try.prog 15 #[.pointer (some ⟨rb, 0, none⟩)] w fun e w' => (∃ r, e = .returned r) ∧ Rr 31 K rb v (bl V N) (up8 p) w' ∧ Fr (fun k => k = rb) w w' := by
  obtain ⟨P, hP⟩ : ∃ P : Ending → World → Prop, P = fun e w' => (∃ r, e = .returned r) ∧ Rr 31 K rb v (bl V N) (up8 p) w' ∧ Fr (fun k => k = rb) w w' := ⟨_, rfl⟩
  rw [← hP]
  have hbl := h.bl
  rw [bl_length] at hbl
  have HI0 : Hid (Rr 31 K rb v (bl V N) p w ∧ Fr (fun k => k = rb) w w) := ⟨h, Fr.refl _ _⟩
  have HP : Hid (P = fun e w' => (∃ r, e = .returned r) ∧ Rr 31 K rb v (bl V N) (up8 p) w' ∧ Fr (fun k => k = rb) w w') := hP
  clear hP h
  obtain ⟨u, hu⟩ : ∃ u, u = up8 p := ⟨_, rfl⟩
  have hu1 : p ≤ u ∧ u < p + 8 ∧ u % 8 = 0 := by rw [hu]; unfold up8; omega
  rw [← hu] at HP
  clear hu
  obtain ⟨hu1, hu2, hu3⟩ := hu1
  have hu3' : Hid (u % 8 = 0) := hu3
  clear hu3
  go_enter Try.func15, Try.ntmps15
  go_wp2
  go_loopg [] 8 (fun kx wr => ∃ (q : Nat), p ≤ q ∧ q ≤ u ∧ u - q ≤ kx ∧ Hid (Rr 31 K rb v (bl V N) q wr ∧ Fr (fun k => k = rb) w wr))
  case atStart => exact ⟨p, by omega, by omega, by omega, HI0⟩
  case round =>
    obtain ⟨q, hq1, hq2, hkx, HI⟩ := hrel
    clear HI0
    obtain ⟨hR, hF⟩ := HI.out
    obtain ⟨x0, x1, x2⟩ := hR.cells
    by_cases hlt : q < u
    · obtain ⟨z, hz⟩ : ∃ z, z = q % 8 := ⟨_, rfl⟩
      have hzq : (q : Int) % 8 = (z : Int) := by omega
      have hzn : ((z : Int) != 0) = true := by have := hu3'.out; simp; omega
      obtain ⟨k1, k2⟩ := hR.go (q + 1) ((q : Int) + 1) (by omega)
      have HN : Hid (Rr 31 K rb v (bl V N) (q + 1) (wr.setCell ⟨rb, 1, none⟩ (.int .i64 ((q : Int) + 1))) ∧ Fr (fun k => k = rb) w (wr.setCell ⟨rb, 1, none⟩ (.int .i64 ((q : Int) + 1)))) := ⟨k1, hF.trans k2⟩
      clear HI hR hF k1 k2 hz HP x0
      go_wp2_with fail
      go_roundg (u - (q + 1))
      case measure => omega
      case rel => exact ⟨q + 1, by omega, by omega, by omega, HN⟩
    · obtain rfl : q = u := by omega
      have hzq : (q : Int) % 8 = 0 := by have := hu3'.out; omega
      have HF : Hid (∀ r, P (.returned r) wr) := fun r => by rw [HP.out]; exact ⟨⟨_, rfl⟩, hR, hF⟩
      clear HI hR hF HP x0
      go_wp2_with fail
      go_end0
      exact HF.out _
theorem bl_inside (V N u n : Nat) (h : u + 8 * n ≤ N) : ((bl V N).drop u).take (8 * n) = bl (V / 2 ^ u % 2 ^ (8 * n)) (8 * n) := by
  rw [bl_drop, bl_take _ _ _ (by omega), bl_mod _ _ _ (Nat.le_refl _)]
theorem lows_mod (x n : Nat) : lows (x % 2 ^ (8 * n)) n = lows x n := by
  apply le_inj
  · rw [lows_length, lows_length]
  · rw [le_lows, le_lows, ← pow256, Nat.mod_mod]
set_option maxHeartbeats 8000000 in
set_option maxRecDepth 100000 in
theorem sbytes_any (h : Rr 31 K rb v (bl V N) p w) (hp : up8 p ≤ N) (n : Int) (hn : n < 9223372036854775808) : Calls Try.prog 17 #[.pointer (some ⟨rb, 0, none⟩), .int .i64 n] w (Byd 31 K rb v (bl V N) w (bytesF N V p n)) := by
  obtain ⟨P, hP⟩ : ∃ P, P = Byd 31 K rb v (bl V N) w (bytesF N V p n) := ⟨_, rfl⟩
  rw [← hP]
  have hbl := h.bl
  rw [bl_length] at hbl
  have hp2 : p ≤ up8 p := by unfold up8; omega
  have hlt := h.lt
  obtain ⟨u, hu⟩ : ∃ u, u = up8 p := ⟨_, rfl⟩
  have HC : Hid (Calls Try.prog 15 #[.pointer (some ⟨rb, 0, none⟩)] w fun e w1 => (∃ r, e = .returned r) ∧ Hid (Rr 31 K rb v (bl V N) u w1 ∧ Fr (fun k => k = rb) w w1)) := (salign_any h (by omega)).mono fun e w1 ⟨h1, h2, h3⟩ => ⟨h1, by rw [hu]; exact h2, h3⟩
  rw [← hu] at hp hp2
  by_cases h1 : n < 0
  · have HF : Hid (∀ w1, Rr 31 K rb v (bl V N) u w1 ∧ Fr (fun k => k = rb) w w1 → P (.returned (.tuple #[.slice none 0 0, .int .i64 1])) w1) := by
      rintro w1 ⟨k1, k2⟩
      rw [hP, bytesF, if_pos h1, ← hu]; exact ⟨_, rfl, .inl ⟨rfl, rfl⟩, k1, k2⟩
    clear hP h hu
    go_enter Try.func17, Try.ntmps17
    go_wp2_with (first | (go_at_call 15; (with_reducible refine HC.out.mono ?_); rintro e w1 ⟨⟨r, rfl⟩, H1⟩))
    exact HF.out _ H1.out
  obtain ⟨a, c, hv, hc, hc2, hi, hca⟩ := h.form
  rw [bl_length] at hv hc
  clear hi
  have HQ : Hid (∀ w1, Rr 31 K rb v (bl V N) u w1 → w1.cell? ⟨rb, 1, none⟩ = some (.int .i64 u) ∧ w1.frozen? ⟨rb, 1, none⟩ = false ∧ w1.cell? ⟨rb, 0, none⟩ = some v) := by
    intro w1 k1
    obtain ⟨x0, x1, x2⟩ := k1.cells
    exact ⟨x1, x2, x0⟩
  obtain ⟨q, hq⟩ : ∃ q, q = N - u := ⟨_, rfl⟩
  have hqi : (N : Int) - (u : Int) = (q : Int) := by omega
  have hqd : (q : Int) / 8 = ((q / 8 : Nat) : Int) := by omega
  obtain ⟨m, hm⟩ : ∃ m, m = q / 8 := ⟨_, rfl⟩
  rw [← hm] at hqd
  have hqb : q ≤ 17592186044416 := by omega
  have hub : u ≤ 17592186044416 := by omega
  by_cases h2 : (m : Int) < n
  · have HF : Hid (∀ w1 w2, Rr 31 K rb v (bl V N) u w1 ∧ Fr (fun k => k = rb) w w1 → Nw w1 w2 → P (.returned (.tuple #[.slice none 0 0, .int .i64 50])) w2) := by
      rintro w1 w2 ⟨k1, k2⟩ k3
      rw [hP, bytesF, if_neg h1, ← hu, ← hq, ← hm, if_pos h2]; exact ⟨_, rfl, .inl ⟨rfl, rfl⟩, k1.nw k3, k2.trans k3.any⟩
    clear hP h hu hq hm hp hp2 hlt hca
    go_enter Try.func17, Try.ntmps17
    go_upto_region 4 with (first | (go_at_call 15; (with_reducible refine HC.out.mono ?_); rintro e w1 ⟨⟨r, rfl⟩, H1⟩))
    obtain ⟨x0, x1, x2⟩ := HQ.out _ H1.out.1
    subst hv
    clear HC HQ
    go_quiet (fail)
    go_wp2_with fail
    exact HF.out _ _ H1.out ((Fr.refl _ _).drewN _)
  · obtain ⟨k, rfl⟩ : ∃ k : Nat, n = k := ⟨n.toNat, by omega⟩
    have huk : u + 8 * k ≤ N := by omega
    obtain ⟨s, hs⟩ : ∃ s, s = u + 8 * k := ⟨_, rfl⟩
    have hsu : s - u = 8 * k := by omega
    obtain ⟨k8, hk8⟩ : ∃ k8, k8 = 8 * k := ⟨_, rfl⟩
    have hk8i : 8 * (k : Int) = (k8 : Int) := by omega
    have hss : (u : Int) + (k8 : Int) = (s : Int) := by omega
    have HQ3 : Hid (∀ w1 W vs, Rr 31 K rb v (bl V N) u w1 ∧ Fr (fun k => k = rb) w w1 → Nw w1 W → (c = u ∧ (∃ a2, vs = .slice a2 k8 0) ∨ ∃ g o, a = some ⟨g, o, none⟩ ∧ vs = .slice (some ⟨g, o + u, none⟩) k8 (c - u)) → Calls Try.prog 30 #[vs] W fun e w' => ∃ x, e = .returned x ∧ w'.cell? ⟨rb, 0, none⟩ = some v ∧ w'.cell? ⟨rb, 1, none⟩ = some (.int .i64 u) ∧ w'.frozen? ⟨rb, 1, none⟩ = false ∧ Hid (P (.returned (.tuple #[x, .int .i64 0])) (w'.setCell ⟨rb, 1, none⟩ (.int .i64 s)))) := by
      rintro w1 W vs ⟨k1, k2⟩ hW hvs
      have k1' := k1.nw hW
      obtain ⟨c1, c2⟩ := k1'.cut a c u k8 (by rw [bl_length]; exact hv) (by rw [bl_length, hk8]; exact huk)
      rw [hk8, bl_inside V N u k huk, ← hk8] at c1 c2
      have hsl : Sl (fun _ => False) vs (bl (V / 2 ^ u % 2 ^ k8) k8) W := by
        rcases hvs with ⟨hc', a2, rfl⟩ | ⟨g, o, ha, rfl⟩
        · obtain rfl : k8 = 0 := by omega
          exact c1 hc' a2
        · exact c2 g o ha
      refine (sBytes_any W vs _ k8 (Nat.mod_lt _ (Nat.pow_pos (by decide))) hsl (by omega)).mono ?_
      rintro e w' ⟨g, c', rfl, hg, hO, hN⟩
      obtain ⟨x0, x1, x2⟩ := (k1'.nw hN).cells
      refine ⟨_, rfl, x0, x1, x2, ?_⟩
      show P _ _
      obtain ⟨j1, j2⟩ := (k1'.nw hN).go s s rfl
      rw [hP, bytesF, if_neg h1, ← hu, ← hq, ← hm, if_neg h2, Int.toNat_natCast, ← hs]
      refine ⟨_, rfl, ?_, j1, ((k2.trans hW.any).trans hN.any).trans j2⟩
      have hk : (k8 + 7) / 8 = k := by omega
      rw [hk, hk8, lows_mod] at hO ⊢
      have hrg : rb ≠ g := by have := k1'.lt; omega
      exact .inr ⟨g, by have := hW.size; have := k2.size; show ¬ g < w.heap.size; omega, hO.kept j2 (fun e => hrg e.symm)⟩
    clear hP h hu hq hm hp hp2 hlt hs
    have hz1 : (s : Int) ≤ (c : Int) := by omega
    have hz2 : (u : Int) ≤ (s : Int) := by omega
    have hz5 : s ≤ c := by omega
    have hz6 : u ≤ s := by omega
    have hz7 : IntKind.i64.wrap (s : Int) = (s : Int) := by rw [IntKind.wrap_i64]; omega
    have hz9 : IntKind.i64.wrap (k8 : Int) = (k8 : Int) := by rw [IntKind.wrap_i64]; omega
    have hz8 : (0 : Int) ≤ (u : Int) := by omega
    rw [← hk8] at hsu
    have hkb : k ≤ 17592186044416 := by omega
    have hk8b : k8 ≤ 17592186044416 := by omega
    have hcu : c = u → k8 = 0 := by omega
    clear hn huk hk8
    go_enter Try.func17, Try.ntmps17
    go_upto_region 4 with (first | (go_at_call 15; (with_reducible refine HC.out.mono ?_); rintro e w1 ⟨⟨r, rfl⟩, H1⟩))
    obtain ⟨x0, x1, x2⟩ := HQ.out _ H1.out.1
    subst hv
    clear HC
    go_quiet (fail)
    go_upto_region 6 with fail
    obtain ⟨y0, y1, y2⟩ := HQ.out _ (H1.out.1.nw ((Fr.refl _ _).drewN nq))
    have hN1 : Nw w1 (w1.drewN nq) := (Fr.refl _ _).drewN nq
    have HQ4 : Hid (∀ vs, (c = u ∧ (∃ a2, vs = .slice a2 k8 0) ∨ ∃ g o, a = some ⟨g, o, none⟩ ∧ vs = .slice (some ⟨g, o + u, none⟩) k8 (c - u)) → Calls Try.prog 30 #[vs] (w1.drewN nq).drew fun e w' => ∃ x, e = .returned x ∧ w'.cell? ⟨rb, 0, none⟩ = some (.slice a N c) ∧ w'.cell? ⟨rb, 1, none⟩ = some (.int .i64 u) ∧ w'.frozen? ⟨rb, 1, none⟩ = false ∧ Hid (P (.returned (.tuple #[x, .int .i64 0])) (w'.setCell ⟨rb, 1, none⟩ (.int .i64 s)))) := fun vs => HQ3.out w1 _ vs H1.out hN1.drew
    clear HQ HQ3 H1 hN1 x0 x1 x2
    generalize w1.drewN nq = V1 at *
    have y0d : V1.drew.cell? ⟨rb, 0, none⟩ = some (.int .i64 u) ∨ True := .inr trivial
    clear y0d
    have z0 : V1.drew.cell? ⟨rb, 0, none⟩ = some (.slice a N c) := y2
    have z1 : V1.drew.cell? ⟨rb, 1, none⟩ = some (.int .i64 u) := y0
    have z2 : V1.drew.frozen? ⟨rb, 1, none⟩ = false := y1
    by_cases hcf : c = u
    · have HC1 : Hid (Calls Try.prog 30 #[.slice a k8 0] V1.drew fun e w' => ∃ x, e = .returned x ∧ w'.cell? ⟨rb, 0, none⟩ = some (.slice a N c) ∧ w'.cell? ⟨rb, 1, none⟩ = some (.int .i64 u) ∧ w'.frozen? ⟨rb, 1, none⟩ = false ∧ Hid (P (.returned (.tuple #[x, .int .i64 0])) (w'.setCell ⟨rb, 1, none⟩ (.int .i64 s)))) := HQ4.out _ (.inl ⟨hcf, a, rfl⟩)
      have ha2 : ∀ w, (Instr.slice 22 (.slice a N c) (some (.int .i64 u)) (some (.int .i64 s)) none).run Try.prog w = .ok (.slice a k8 0) w := fun w => by
        obtain ⟨i, hi, hz, hs, hby⟩ := infoB
        rw [run_slice_lh (P := Try.prog) (w := w) 22 a N c Try.underlying22 _ _ _ _ hz8 hz2 hz1]
        simp [sliced, sizeOf, typeInfo, show Try.prog.elem 22 = 5 by kernel_rfl, hi, hs, Result.andThen, hcf, hsu]
      clear HQ4 hcu hcf hsu
      go_region_held3 (fun w' => w'.cell? ⟨rb, 0, none⟩ = some (.slice a N c) ∧ w'.cell? ⟨rb, 1, none⟩ = some (.int .i64 u) ∧ w'.frozen? ⟨rb, 1, none⟩ = false)
        (first | assumption | (refine ⟨?_, ?_, ?_⟩ <;> assumption))
        (first | (go_at_call 30; (with_reducible refine HC1.out.mono ?_); rintro e w2 ⟨x, rfl, t0, t1, t2, HF⟩))
      go_wp2_with fail
      exact HF.out
    · rcases hca with hc0 | ⟨g, o, rfl⟩
      · omega
      · have HC1 : Hid (Calls Try.prog 30 #[.slice (some ⟨g, o + u, none⟩) k8 (c - u)] V1.drew fun e w' => ∃ x, e = .returned x ∧ w'.cell? ⟨rb, 0, none⟩ = some (.slice (some ⟨g, o, none⟩) N c) ∧ w'.cell? ⟨rb, 1, none⟩ = some (.int .i64 u) ∧ w'.frozen? ⟨rb, 1, none⟩ = false ∧ Hid (P (.returned (.tuple #[x, .int .i64 0])) (w'.setCell ⟨rb, 1, none⟩ (.int .i64 s)))) := HQ4.out _ (.inr ⟨g, o, rfl, rfl⟩)
        clear HQ4
        go_region_held3 (fun w' => w'.cell? ⟨rb, 0, none⟩ = some (.slice (some ⟨g, o, none⟩) N c) ∧ w'.cell? ⟨rb, 1, none⟩ = some (.int .i64 u) ∧ w'.frozen? ⟨rb, 1, none⟩ = false)
          (first | assumption | (refine ⟨?_, ?_, ?_⟩ <;> assumption))
          (first | (go_at_call 30; (with_reducible refine HC1.out.mono ?_); rintro e w2 ⟨x, rfl, t0, t1, t2, HF⟩))
        go_wp2_with fail
        exact HF.out
end Go.Proofs.Ytkpkiajehclbhaa

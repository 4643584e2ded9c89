import Derived.Test.YtdeefemeiggolaaFeDq
namespace Go.Proofs.Ytdeefemeiggolaa
open Go.RowKit
set_option linter.unusedVariables false
/-! ### The document's Size and Pieces -/
theorem dSize_any (s : Shp) (h1 : 4 ≤ s.block) (h2 : s.block ≤ 7) (w : World) : Calls Try.prog 42 #[.agg #[.int .i64 s.block, .bool s.alone, .bool s.bsum, .bool s.csum, .bool s.csize]] w fun e w' => e = .returned (.int .i64 ((2 ^ (8 + 2 * s.block) : Nat) : Int)) ∧ Nw w w' := by
  have hN : Hid (∀ o, Nw w (w.alloc o)) := fun o => (Fr.refl _ _).alloc o
  generalize s.block = k at *
  have : k = 4 ∨ k = 5 ∨ k = 6 ∨ k = 7 := by omega
  rcases this with rfl | rfl | rfl | rfl
  all_goals go_enter Try.func42, Try.ntmps42
  all_goals go_wp2
  all_goals try go_ret
  all_goals exact ⟨rfl, hN.out _⟩
/-- The pieces of L bytes from p on: where each begins, how long it is; they reach q. -/
def Cuts (L sz : Nat) : Nat → List (Nat × Nat) → Nat → Prop
  | p, [], q => p = q
  | p, x :: r, q => x.1 = p ∧ p < L ∧ x.2 = min sz (L - p) ∧ Cuts L sz (p + x.2) r q
theorem Cuts.snoc {L sz : Nat} {ps : List (Nat × Nat)} {p q : Nat} (h : Cuts L sz p ps q) (hq : q < L) : Cuts L sz p (ps ++ [(q, min sz (L - q))]) (q + min sz (L - q)) := by
  induction ps generalizing p with
  | nil =>
    have e : p = q := h
    subst e
    exact ⟨rfl, hq, rfl, rfl⟩
  | cons x r ih => exact ⟨h.1, h.2.1, h.2.2.1, ih h.2.2.2⟩
theorem Cuts.le {L sz : Nat} (hs : 1 ≤ sz) {ps : List (Nat × Nat)} {p q : Nat} (h : Cuts L sz p ps q) : p + ps.length ≤ q := by
  induction ps generalizing p with
  | nil =>
    have e : p = q := h
    subst e; simp
  | cons x r ih =>
    obtain ⟨h1, h2, h3, h4⟩ := h
    have := ih h4
    rw [List.length_cons]
    have : 1 ≤ x.2 := by rw [h3]; omega
    omega
def pv (g o c : Nat) (x : Nat × Nat) : Value := .slice (some ⟨g, o + x.1, none⟩) x.2 (c - x.1)
set_option maxHeartbeats 16000000 in
set_option maxRecDepth 100000 in
theorem dPieces_any (w : World) (s : Shp) (h1 : 4 ≤ s.block) (h2 : s.block ≤ 7) (a : Option Addr) (g o L c : Nat) (ha : 0 < L → a = some ⟨g, o, none⟩) (hLc : L ≤ c) (hc : c < 9223372036854775808) (hL : L ≤ 4194304) :
    Calls Try.prog 24 #[.slice a L c, .agg #[.int .i64 s.block, .bool s.alone, .bool s.bsum, .bool s.csum, .bool s.csize]] w fun e w' => ∃ a' ps c', e = .returned (.slice a' ps.length c') ∧ Cuts L (2 ^ (8 + 2 * s.block)) 0 ps L ∧ MineV (fun k => k < w.heap.size) (.slice a' ps.length c') (ps.map (pv g o c)) w' ∧ Nw w w' := by
  obtain ⟨P, hP⟩ : ∃ P : Ending → World → Prop, P = fun e w' => ∃ a' ps c', e = .returned (.slice a' ps.length c') ∧ Cuts L (2 ^ (8 + 2 * s.block)) 0 ps L ∧ MineV (fun k => k < w.heap.size) (.slice a' ps.length c') (ps.map (pv g o c)) w' ∧ Nw w w' := ⟨_, rfl⟩
  rw [← hP]
  have HSZ : ∀ V, Calls Try.prog 42 #[.agg #[.int .i64 s.block, .bool s.alone, .bool s.bsum, .bool s.csum, .bool s.csize]] V fun e w' => e = .returned (.int .i64 ((2 ^ (8 + 2 * s.block) : Nat) : Int)) ∧ Nw V w' := fun V => dSize_any s h1 h2 V
  have hsz1 : 65536 ≤ 2 ^ (8 + 2 * s.block) := by
    have : 2 ^ 16 ≤ 2 ^ (8 + 2 * s.block) := Nat.pow_le_pow_right (by decide) (by omega)
    exact this
  have hsz2 : 2 ^ (8 + 2 * s.block) ≤ 4194304 := by
    have : 2 ^ (8 + 2 * s.block) ≤ 2 ^ 22 := Nat.pow_le_pow_right (by decide) (by omega)
    exact this
  generalize 2 ^ (8 + 2 * s.block) = sz at *
  obtain ⟨W1, hW1⟩ : ∃ W1, w.alloc (.cells #[.int .i64 s.block, .bool s.alone, .bool s.bsum, .bool s.csum, .bool s.csize] 24) = W1 := ⟨_, rfl⟩
  have hrow : W1.heap[w.heap.size]? = some (.cells #[.int .i64 s.block, .bool s.alone, .bool s.bsum, .bool s.csum, .bool s.csize] 24) := by
    rw [← hW1]
    show (w.heap.push _)[w.heap.size]? = _
    rw [Array.getElem?_push_size]
  have hN1 : Nw w W1 := by rw [← hW1]; exact (Fr.refl _ _).alloc _
  have HF : Hid (∀ V a' n c' ps, Cuts L sz 0 ps L ∧ n = ps.length ∧ MineV (fun k => k < W1.heap.size) (.slice a' n c') (ps.map (pv g o c)) V ∧ Nw W1 V → P (.returned (.slice a' n c')) V) := by
    rintro V a' n c' ps ⟨h1, rfl, h2, h3⟩
    rw [hP]
    refine ⟨a', ps, c', rfl, h1, ?_, hN1.trans h3⟩
    rcases h2 with h | ⟨gg, h4, h5⟩
    · exact .inl h
    · exact .inr ⟨gg, fun hk => h4 (Nat.lt_of_lt_of_le hk hN1.size), h5⟩
  have HI0 : Hid (Cuts L sz 0 [] 0 ∧ 0 = ([] : List (Nat × Nat)).length ∧ MineV (fun k => k < W1.heap.size) (.slice none 0 0) (([] : List (Nat × Nat)).map (pv g o c)) W1 ∧ Nw W1 W1) := ⟨rfl, rfl, .inl ⟨rfl, rfl⟩, Fr.refl _ _⟩
  have HST : Hid (∀ wr la lo lc p ps, p < L → Hid (Cuts L sz 0 ps p ∧ lo = ps.length ∧ MineV (fun k => k < W1.heap.size) (.slice la lo lc) (ps.map (pv g o c)) wr ∧ Nw W1 wr) → Calls Try.prog 42 #[.agg #[.int .i64 s.block, .bool s.alone, .bool s.bsum, .bool s.csum, .bool s.csize]] wr fun e w3 => e = .returned (.int .i64 (sz : Int)) ∧ ∃ la' lc' W, Hid (∀ ty, (Builtin.append_ #[52, 52] ty #[.slice la lo lc, .slice (some ⟨w3.heap.size, 0, none⟩) 1 1]).run Try.prog (w3.alloc (.cells #[.slice (some ⟨g, o + p, none⟩) (min sz (L - p)) (c - p)] 22)) = .ok (.slice la' (lo + 1) lc') W) ∧ Hid (Cuts L sz 0 (ps ++ [(p, min sz (L - p))]) (p + min sz (L - p)) ∧ lo + 1 = (ps ++ [(p, min sz (L - p))]).length ∧ MineV (fun k => k < W1.heap.size) (.slice la' (lo + 1) lc') ((ps ++ [(p, min sz (L - p))]).map (pv g o c)) W ∧ Nw W1 W)) := by
    intro wr la lo lc p ps hp hH
    obtain ⟨k1, rfl, k3, k4⟩ := hH.out
    refine (HSZ wr).mono ?_
    rintro e w3 ⟨rfl, hN3⟩
    refine ⟨rfl, ?_⟩
    have hle := k1.le (by omega)
    have h3 := k4.trans hN3
    obtain ⟨v', W, m1, m2, m3⟩ := mineV_step (fun k => k < W1.heap.size) w3 (fun k hk => Nat.lt_of_lt_of_le hk h3.size) _ _ (k3.nw hN3) (by rw [List.length_map]; omega) (pv g o c (p, min sz (L - p))) rfl
    obtain ⟨la', lc', e1, _, _⟩ := m2.form
    have e2 : (ps.map (pv g o c) ++ [pv g o c (p, min sz (L - p))]).length = ps.length + 1 := by simp
    rw [e2] at e1
    subst e1
    refine ⟨la', lc', W, m1, k1.snoc hp, by simp, ?_, Fr.then h3 m3 (fun k hk => .inr (by omega))⟩
    rw [List.map_append]; exact m2
  have KEY : Hid (∀ V, Nw W1 V → V.cell? ⟨w.heap.size, 0, none⟩ = some (.int .i64 s.block) ∧ V.cell? ⟨w.heap.size, 1, none⟩ = some (.bool s.alone) ∧ V.cell? ⟨w.heap.size, 2, none⟩ = some (.bool s.bsum) ∧ V.cell? ⟨w.heap.size, 3, none⟩ = some (.bool s.csum) ∧ V.cell? ⟨w.heap.size, 4, none⟩ = some (.bool s.csize)) := fun V hV => ⟨hV.cell (row_cell hrow 0 _ rfl).1, hV.cell (row_cell hrow 1 _ rfl).1, hV.cell (row_cell hrow 2 _ rfl).1, hV.cell (row_cell hrow 3 _ rfl).1, hV.cell (row_cell hrow 4 _ rfl).1⟩
  have HW1 : Hid (w.alloc (.cells #[.int .i64 s.block, .bool s.alone, .bool s.bsum, .bool s.csum, .bool s.csize] 24) = W1) := hW1
  have HA : Hid (0 < L → a = some ⟨g, o, none⟩) := ha
  clear hP hrow hN1 hW1 HSZ ha
  generalize (s.block : Int) = bk at *
  generalize s.alone = al at *
  generalize s.bsum = bs at *
  generalize s.csum = cs at *
  generalize s.csize = cz at *
  go_enter Try.func24, Try.ntmps24
  go_wp2_with fail
  rw [HW1.out]
  go_loopg [0, 5] L (fun kx vpl vout wr => ∃ (p : Nat) (ps : List (Nat × Nat)) (ax : Option Addr) (R C : Nat) (la : Option Addr) (lo lc : Nat), p ≤ L ∧ L - p ≤ kx ∧ R = L - p ∧ vpl = .slice ax R C ∧ Hid (p < L → ax = some ⟨g, o + p, none⟩ ∧ C = c - p) ∧ vout = .slice la lo lc ∧ Hid (Cuts L sz 0 ps p ∧ lo = ps.length ∧ MineV (fun k => k < W1.heap.size) (.slice la lo lc) (ps.map (pv g o c)) wr ∧ Nw W1 wr))
  case atStart => exact ⟨0, [], a, L, c, none, 0, 0, by omega, by omega, by omega, rfl, fun h => ⟨HA.out h, rfl⟩, rfl, HI0.out⟩
  case round =>
    obtain ⟨p, ps, ax, R, C, la, lo, lc, hp, hkx, hR, rfl, HX, rfl, HI⟩ := hrel
    clear HI0 HA
    by_cases hlt : p < L
    · obtain ⟨rfl, hC⟩ := HX.out hlt
      have HS := HST.out wr la lo lc p ps hlt HI
      obtain ⟨c0, c1, c2, c3, c4⟩ := KEY.out wr HI.out.2.2.2
      rw [← hR, ← hC] at HS
      have HS' : Hid (Calls Try.prog 42 #[.agg #[.int .i64 bk, .bool al, .bool bs, .bool cs, .bool cz]] wr fun e w3 => e = .returned (.int .i64 (sz : Int)) ∧ ∃ la' lc' W, Hid (∀ ty, (Builtin.append_ #[52, 52] ty #[.slice la lo lc, .slice (some ⟨w3.heap.size, 0, none⟩) 1 1]).run Try.prog (w3.alloc (.cells #[.slice (some ⟨g, o + p, none⟩) (min sz R) C] 22)) = .ok (.slice la' (lo + 1) lc') W) ∧ Hid (Cuts L sz 0 (ps ++ [(p, min sz R)]) (p + min sz R) ∧ lo + 1 = (ps ++ [(p, min sz R)]).length ∧ MineV (fun k => k < W1.heap.size) (.slice la' (lo + 1) lc') ((ps ++ [(p, min sz R)]).map (pv g o c)) W ∧ Nw W1 W)) := HS
      have hRC : R ≤ C := by omega
      have hR0 : 0 < R := by omega
      have hRl : R ≤ 4194304 := by omega
      have hCl : C < 9223372036854775808 := by omega
      have HRp : Hid (R = L - p) := hR
      have HCp : Hid (C = c - p) := hC
      have HLp : Hid (p < L ∧ L ≤ c) := ⟨hlt, hLc⟩
      have HKX : Hid (L - p ≤ gk) := hkx
      clear HST KEY HS HI hR hC HX hp hlt hkx hLc hc hL HF
      obtain ⟨A, hA⟩ : ∃ A, o + p = A := ⟨_, rfl⟩
      rw [hA] at HS' ⊢
      have HAe : Hid (o + p = A) := hA
      clear hA
      have hz0 : (0 : Int) < (R : Int) := by omega
      by_cases h5 : R < sz
      · rw [Nat.min_eq_right (by omega)] at HS'
        have hz1 : (R : Int) < (sz : Int) := by omega
        have hz2 : (R : Int) ≤ (C : Int) := by omega
        by_cases h6 : C = R
        · subst h6
          go_wp2_with (first | (go_at_call 42; with_reducible refine HS'.out.mono ?_; rintro e w3 ⟨rfl, la', lc', W, HAP, HN⟩) | (at_builtin; refine Lib.wpList_append_run _ rfl _ _ 52 52 rfl (.slice la lo lc) (.slice (some ⟨w3.heap.size, 0, none⟩) 1 1) (by simp [Act.eval]) (by simp [Act.eval]) _ _ (HAP.out _) ?_))
          have hh1 := HRp.out
          have hh2 := HLp.out
          have hh3 := HKX.out
          have hh4 := HCp.out
          go_roundg (L - (p + C))
          all_goals (first | omega | exact ⟨p + C, ps ++ [(p, C)], _, _, _, la', lo + 1, lc', by omega, by omega, by omega, rfl, fun h => absurd h (by omega), rfl, HN.out⟩)
        · go_wp2_with (first | (go_at_call 42; with_reducible refine HS'.out.mono ?_; rintro e w3 ⟨rfl, la', lc', W, HAP, HN⟩) | (at_builtin; refine Lib.wpList_append_run _ rfl _ _ 52 52 rfl (.slice la lo lc) (.slice (some ⟨w3.heap.size, 0, none⟩) 1 1) (by simp [Act.eval]) (by simp [Act.eval]) _ _ (HAP.out _) ?_))
          have hh1 := HRp.out
          have hh2 := HLp.out
          have hh3 := HKX.out
          have hh4 := HCp.out
          go_roundg (L - (p + R))
          all_goals (first | omega | exact ⟨p + R, ps ++ [(p, R)], _, _, _, la', lo + 1, lc', by omega, by omega, by omega, rfl, fun h => absurd h (by omega), rfl, HN.out⟩)
      · rw [Nat.min_eq_left (by omega)] at HS'
        have hz1 : ¬ (R : Int) < (sz : Int) := by omega
        have hz2 : (sz : Int) ≤ (C : Int) := by omega
        have hz3 : (sz : Int) ≤ (R : Int) := by omega
        by_cases h6 : C = sz
        · subst h6
          go_wp2_with (first | (go_at_call 42; with_reducible refine HS'.out.mono ?_; rintro e w3 ⟨rfl, la', lc', W, HAP, HN⟩) | (at_builtin; refine Lib.wpList_append_run _ rfl _ _ 52 52 rfl (.slice la lo lc) (.slice (some ⟨w3.heap.size, 0, none⟩) 1 1) (by simp [Act.eval]) (by simp [Act.eval]) _ _ (HAP.out _) ?_))
          have hh1 := HRp.out
          have hh2 := HLp.out
          have hh3 := HKX.out
          have hh4 := HCp.out
          go_roundg (L - (p + C))
          all_goals (first | omega | exact ⟨p + C, ps ++ [(p, C)], _, _, _, la', lo + 1, lc', by omega, by omega, by omega, rfl, fun h => absurd h (by omega), rfl, HN.out⟩)
        · go_wp2_with (first | (go_at_call 42; with_reducible refine HS'.out.mono ?_; rintro e w3 ⟨rfl, la', lc', W, HAP, HN⟩) | (at_builtin; refine Lib.wpList_append_run _ rfl _ _ 52 52 rfl (.slice la lo lc) (.slice (some ⟨w3.heap.size, 0, none⟩) 1 1) (by simp [Act.eval]) (by simp [Act.eval]) _ _ (HAP.out _) ?_))
          have hh1 := HRp.out
          have hh2 := HLp.out
          have hh3 := HKX.out
          have hh4 := HCp.out
          go_roundg (L - (p + sz))
          all_goals (first | omega | exact ⟨p + sz, ps ++ [(p, sz)], _, _, _, la', lo + 1, lc', by omega, by omega, by omega, rfl, fun h => ⟨by rw [← HAe.out, Nat.add_assoc], by omega⟩, rfl, HN.out⟩)
    · obtain rfl : p = L := by omega
      have HF' : Hid (P (.returned (.slice la lo lc)) wr) := HF.out _ _ _ _ _ HI.out
      have hz0 : ¬ (0 : Int) < (R : Int) := by omega
      clear HI HF HX KEY HST
      go_wp2_with fail
      exact HF'.out
end Go.Proofs.Ytdeefemeiggolaa

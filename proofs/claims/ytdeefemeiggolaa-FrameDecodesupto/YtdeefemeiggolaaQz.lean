import Derived.Test.YtdeefemeiggolaaQy
namespace Go.Proofs.Ytdeefemeiggolaa
open Go.RowKit
set_option linter.unusedVariables false
/-! ### The document's Size and Pieces -/
theorem dSize_any (s : Shp) (h1 : 4 ≤ s.block) (h2 : s.block ≤ 7) (w : World) : Calls Try.prog 42 #[.agg #[.int .i64 s.block, .bool s.alone, .bool s.bsum, .bool s.csum, .bool s.csize]] w fun e w' => e = .returned (.int .i64 ((2 ^ (8 + 2 * s.block) : Nat) : Int)) ∧ Nw w w' := by
  have hN : Hid (∀ o, Nw w (w.alloc o)) := fun o => (Fr.refl _ _).alloc o
  generalize s.block = k at *
  have : k = 4 ∨ k = 5 ∨ k = 6 ∨ k = 7 := by omega
  rcases this with rfl | rfl | rfl | rfl
  all_goals go_enter Try.func42, Try.ntmps42
  all_goals go_wp2
  all_goals try go_ret
  all_goals exact ⟨rfl, hN.out _⟩
/-- The pieces of L bytes from p on: where each begins, how long it is; they reach q. -/
def Cuts (L sz : Nat) : Nat → List (Nat × Nat) → Nat → Prop
  | p, [], q => p = q
  | p, x :: r, q => x.1 = p ∧ p < L ∧ x.2 = min sz (L - p) ∧ Cuts L sz (p + x.2) r q
theorem Cuts.snoc {L sz : Nat} {ps : List (Nat × Nat)} {p q : Nat} (h : Cuts L sz p ps q) (hq : q < L) : Cuts L sz p (ps ++ [(q, min sz (L - q))]) (q + min sz (L - q)) := by
  induction ps generalizing p with
  | nil =>
    have e : p = q := h
    subst e
    exact ⟨rfl, hq, rfl, rfl⟩
  | cons x r ih => exact ⟨h.1, h.2.1, h.2.2.1, ih h.2.2.2⟩
theorem Cuts.le {L sz : Nat} (hs : 1 ≤ sz) {ps : List (Nat × Nat)} {p q : Nat} (h : Cuts L sz p ps q) : p + ps.length ≤ q := by
  induction ps generalizing p with
  | nil =>
    have e : p = q := h
    subst e; simp
  | cons x r ih =>
    obtain ⟨h1, h2, h3, h4⟩ := h
    have := ih h4
    rw [List.length_cons]
    have : 1 ≤ x.2 := by rw [h3]; omega
    omega
def pv (g o c : Nat) (x : Nat × Nat) : Value := .slice (some ⟨g, o + x.1, none⟩) x.2 (c - x.1)
set_option maxHeartbeats 16000000 in
set_option maxRecDepth 100000 in
theorem dPieces_any (w : World) (s : Shp) (h1 : 4 ≤ s.block) (h2 : s.block ≤ 7) (a : Option Addr) (g o L c : Nat) (ha : 0 < L → a = some ⟨g, o, none⟩) (hLc : L ≤ c) (hc : c < 9223372036854775808) (hL : L ≤ 4194304) :
    Calls Try.prog 24 #[.slice a L c, .agg #[.int .i64 s.block, .bool s.alone, .bool s.bsum, .bool s.csum, .bool s.csize]] w fun e w' => ∃ a' ps c', e = .returned (.slice a' ps.length c') ∧ Cuts L (2 ^ (8 + 2 * s.block)) 0 ps L ∧ MineV (fun k => k < w.heap.size) (.slice a' ps.length c') (ps.map (pv g o c)) w' ∧ Nw w w' := by
  obtain ⟨P, hP⟩ : ∃ P : Ending → World → Prop, P = fun e w' => ∃ a' ps c', e = .returned (.slice a' ps.length c') ∧ Cuts L (2 ^ (8 + 2 * s.block)) 0 ps L ∧ MineV (fun k => k < w.heap.size) (.slice a' ps.length c') (ps.map (pv g o c)) w' ∧ Nw w w' := ⟨_, rfl⟩
  rw [← hP]
  have HSZ : ∀ V, Calls Try.prog 42 #[.agg #[.int .i64 s.block, .bool s.alone, .bool s.bsum, .bool s.csum, .bool s.csize]] V fun e w' => e = .returned (.int .i64 ((2 ^ (8 + 2 * s.block) : Nat) : Int)) ∧ Nw V w' := fun V => dSize_any s h1 h2 V
  have hsz1 : 65536 ≤ 2 ^ (8 + 2 * s.block) := by
    have : 2 ^ 16 ≤ 2 ^ (8 + 2 * s.block) := Nat.pow_le_pow_right (by decide) (by omega)
    exact this
  have hsz2 : 2 ^ (8 + 2 * s.block) ≤ 4194304 := by
    have : 2 ^ (8 + 2 * s.block) ≤ 2 ^ 22 := Nat.pow_le_pow_right (by decide) (by omega)
    exact this
  generalize 2 ^ (8 + 2 * s.block) = sz at *
  obtain ⟨W1, hW1⟩ : ∃ W1, w.alloc (.cells #[.int .i64 s.block, .bool s.alone, .bool s.bsum, .bool s.csum, .bool s.csize] 24) = W1 := ⟨_, rfl⟩
  have hrow : W1.heap[w.heap.size]? = some (.cells #[.int .i64 s.block, .bool s.alone, .bool s.bsum, .bool s.csum, .bool s.csize] 24) := by
    rw [← hW1]
    show (w.heap.push _)[w.heap.size]? = _
    rw [Array.getElem?_push_size]
  have hN1 : Nw w W1 := by rw [← hW1]; exact (Fr.refl _ _).alloc _
  have HF : Hid (∀ V a' n c' ps, Cuts L sz 0 ps L ∧ n = ps.length ∧ MineV (fun k => k < W1.heap.size) (.slice a' n c') (ps.map (pv g o c)) V ∧ Nw W1 V → P (.returned (.slice a' n c')) V) := by
    rintro V a' n c' ps ⟨h1, rfl, h2, h3⟩
    rw [hP]
    refine ⟨a', ps, c', rfl, h1, ?_, hN1.trans h3⟩
    rcases h2 with h | ⟨gg, h4, h5⟩
    · exact .inl h
    · exact .inr ⟨gg, fun hk => h4 (Nat.lt_of_lt_of_le hk hN1.size), h5⟩
  have HI0 : Hid (Cuts L sz 0 [] 0 ∧ 0 = ([] : List (Nat × Nat)).length ∧ MineV (fun k => k < W1.heap.size) (.slice none 0 0) (([] : List (Nat × Nat)).map (pv g o c)) W1 ∧ Nw W1 W1) := ⟨rfl, rfl, .inl ⟨rfl, rfl⟩, Fr.refl _ _⟩
  have HST : Hid (∀ wr la lo lc p ps, p < L → Hid (Cuts L sz 0 ps p ∧ lo = ps.length ∧ MineV (fun k => k < W1.heap.size) (.slice la lo lc) (ps.map (pv g o c)) wr ∧ Nw W1 wr) → Calls Try.prog 42 #[.agg #[.int .i64 s.block, .bool s.alone, .bool s.bsum, .bool s.csum, .bool s.csize]] wr fun e w3 => e = .returned (.int .i64 (sz : Int)) ∧ ∃ la' lc' W, Hid (∀ ty, (Builtin.append_ #[52, 52] ty #[.slice la lo lc, .slice (some ⟨w3.heap.size, 0, none⟩) 1 1]).run Try.prog (w3.alloc (.cells #[.slice (some ⟨g, o + p, none⟩) (min sz (L - p)) (c - p)] 22)) = .ok (.slice la' (lo + 1) lc') W) ∧ Hid (Cuts L sz 0 (ps ++ [(p, min sz (L - p))]) (p + min sz (L - p)) ∧ lo + 1 = (ps ++ [(p, min sz (L - p))]).length ∧ MineV (fun k => k < W1.heap.size) (.slice la' (lo + 1) lc') ((ps ++ [(p, min sz (L - p))]).map (pv g o c)) W ∧ Nw W1 W)) := by
    intro wr la lo lc p ps hp hH
    obtain ⟨k1, rfl, k3, k4⟩ := hH.out
    refine (HSZ wr).mono ?_
    rintro e w3 ⟨rfl, hN3⟩
    refine ⟨rfl, ?_⟩
    have hle := k1.le (by omega)
    have h3 := k4.trans hN3
    obtain ⟨v', W, m1, m2, m3⟩ := mineV_step (fun k => k < W1.heap.size) w3 (fun k hk => Nat.lt_of_lt_of_le hk h3.size) _ _ (k3.nw hN3) (by rw [List.length_map]; omega) (pv g o c (p, min sz (L - p))) rfl
    obtain ⟨la', lc', e1, _, _⟩ := m2.form
    have e2 : (ps.map (pv g o c) ++ [pv g o c (p, min sz (L - p))]).length = ps.length + 1 := by simp
    rw [e2] at e1
    subst e1
    refine ⟨la', lc', W, m1, k1.snoc hp, by simp, ?_, Fr.then h3 m3 (fun k hk => .inr (by omega))⟩
    rw [List.map_append]; exact m2
  have KEY : Hid (∀ V, Nw W1 V → V.cell? ⟨w.heap.size, 0, none⟩ = some (.int .i64 s.block) ∧ V.cell? ⟨w.heap.size, 1, none⟩ = some (.bool s.alone) ∧ V.cell? ⟨w.heap.size, 2, none⟩ = some (.bool s.bsum) ∧ V.cell? ⟨w.heap.size, 3, none⟩ = some (.bool s.csum) ∧ V.cell? ⟨w.heap.size, 4, none⟩ = some (.bool s.csize)) := fun V hV => ⟨hV.cell (row_cell hrow 0 _ rfl).1, hV.cell (row_cell hrow 1 _ rfl).1, hV.cell (row_cell hrow 2 _ rfl).1, hV.cell (row_cell hrow 3 _ rfl).1, hV.cell (row_cell hrow 4 _ rfl).1⟩
  have HW1 : Hid (w.alloc (.cells #[.int .i64 s.block, .bool s.alone, .bool s.bsum, .bool s.csum, .bool s.csize] 24) = W1) := hW1
  have HA : Hid (0 < L → a = some ⟨g, o, none⟩) := ha
  clear hP hrow hN1 hW1 HSZ ha
  generalize (s.block : Int) = bk at *
  generalize s.alone = al at *
  generalize s.bsum = bs at *
  generalize s.csum = cs at *
  generalize s.csize = cz at *
  go_enter Try.func24, Try.ntmps24
  go_wp2_with fail
  rw [HW1.out]
  go_loopg [0, 5] L (fun kx vpl vout wr => ∃ (p : Nat) (ps : List (Nat × Nat)) (ax : Option Addr) (R C : Nat) (la : Option Addr) (lo lc : Nat), p ≤ L ∧ L - p ≤ kx ∧ R = L - p ∧ vpl = .slice ax R C ∧ Hid (p < L → ax = some ⟨g, o + p, none⟩ ∧ C = c - p) ∧ vout = .slice la lo lc ∧ Hid (Cuts L sz 0 ps p ∧ lo = ps.length ∧ MineV (fun k => k < W1.heap.size) (.slice la lo lc) (ps.map (pv g o c)) wr ∧ Nw W1 wr))
  case atStart => exact ⟨0, [], a, L, c, none, 0, 0, by omega, by omega, by omega, rfl, fun h => ⟨HA.out h, rfl⟩, rfl, HI0.out⟩
  case round =>
    obtain ⟨p, ps, ax, R, C, la, lo, lc, hp, hkx, hR, rfl, HX, rfl, HI⟩ := hrel
    clear HI0 HA
    by_cases hlt : p < L
    · obtain ⟨rfl, hC⟩ := HX.out hlt
      have HS := HST.out wr la lo lc p ps hlt HI
      obtain ⟨c0, c1, c2, c3, c4⟩ := KEY.out wr HI.out.2.2.2
      rw [← hR, ← hC] at HS
      have HS' : Hid (Calls Try.prog 42 #[.agg #[.int .i64 bk, .bool al, .bool bs, .bool cs, .bool cz]] wr fun e w3 => e = .returned (.int .i64 (sz : Int)) ∧ ∃ la' lc' W, Hid (∀ ty, (Builtin.append_ #[52, 52] ty #[.slice la lo lc, .slice (some ⟨w3.heap.size, 0, none⟩) 1 1]).run Try.prog (w3.alloc (.cells #[.slice (some ⟨g, o + p, none⟩) (min sz R) C] 22)) = .ok (.slice la' (lo + 1) lc') W) ∧ Hid (Cuts L sz 0 (ps ++ [(p, min sz R)]) (p + min sz R) ∧ lo + 1 = (ps ++ [(p, min sz R)]).length ∧ MineV (fun k => k < W1.heap.size) (.slice la' (lo + 1) lc') ((ps ++ [(p, min sz R)]).map (pv g o c)) W ∧ Nw W1 W)) := HS
      have hRC : R ≤ C := by omega
      have hR0 : 0 < R := by omega
      have hRl : R ≤ 4194304 := by omega
      have hCl : C < 9223372036854775808 := by omega
      have HRp : Hid (R = L - p) := hR
      have HCp : Hid (C = c - p) := hC
      have HLp : Hid (p < L ∧ L ≤ c) := ⟨hlt, hLc⟩
      have HKX : Hid (L - p ≤ gk) := hkx
      clear HST KEY HS HI hR hC HX hp hlt hkx hLc hc hL HF
      obtain ⟨A, hA⟩ : ∃ A, o + p = A := ⟨_, rfl⟩
      rw [hA] at HS' ⊢
      have HAe : Hid (o + p = A) := hA
      clear hA
      have hz0 : (0 : Int) < (R : Int) := by omega
      by_cases h5 : R < sz
      · rw [Nat.min_eq_right (by omega)] at HS'
        have hz1 : (R : Int) < (sz : Int) := by omega
        have hz2 : (R : Int) ≤ (C : Int) := by omega
        by_cases h6 : C = R
        · subst h6
          go_wp2_with (first | (go_at_call 42; with_reducible refine HS'.out.mono ?_; rintro e w3 ⟨rfl, la', lc', W, HAP, HN⟩) | (at_builtin; refine Lib.wpList_append_run _ rfl _ _ 52 52 rfl (.slice la lo lc) (.slice (some ⟨w3.heap.size, 0, none⟩) 1 1) (by simp [Act.eval]) (by simp [Act.eval]) _ _ (HAP.out _) ?_))
          have hh1 := HRp.out
          have hh2 := HLp.out
          have hh3 := HKX.out
          have hh4 := HCp.out
          go_roundg (L - (p + C))
          all_goals (first | omega | exact ⟨p + C, ps ++ [(p, C)], _, _, _, la', lo + 1, lc', by omega, by omega, by omega, rfl, fun h => absurd h (by omega), rfl, HN.out⟩)
        · go_wp2_with (first | (go_at_call 42; with_reducible refine HS'.out.mono ?_; rintro e w3 ⟨rfl, la', lc', W, HAP, HN⟩) | (at_builtin; refine Lib.wpList_append_run _ rfl _ _ 52 52 rfl (.slice la lo lc) (.slice (some ⟨w3.heap.size, 0, none⟩) 1 1) (by simp [Act.eval]) (by simp [Act.eval]) _ _ (HAP.out _) ?_))
          have hh1 := HRp.out
          have hh2 := HLp.out
          have hh3 := HKX.out
          have hh4 := HCp.out
          go_roundg (L - (p + R))
          all_goals (first | omega | exact ⟨p + R, ps ++ [(p, R)], _, _, _, la', lo + 1, lc', by omega, by omega, by omega, rfl, fun h => absurd h (by omega), rfl, HN.out⟩)
      · rw [Nat.min_eq_left (by omega)] at HS'
        have hz1 : ¬ (R : Int) < (sz : Int) := by omega
        have hz2 : (sz : Int) ≤ (C : Int) := by omega
        have hz3 : (sz : Int) ≤ (R : Int) := by omega
        by_cases h6 : C = sz
        · subst h6
          go_wp2_with (first | (go_at_call 42; with_reducible refine HS'.out.mono ?_; rintro e w3 ⟨rfl, la', lc', W, HAP, HN⟩) | (at_builtin; refine Lib.wpList_append_run _ rfl _ _ 52 52 rfl (.slice la lo lc) (.slice (some ⟨w3.heap.size, 0, none⟩) 1 1) (by simp [Act.eval]) (by simp [Act.eval]) _ _ (HAP.out _) ?_))
          have hh1 := HRp.out
          have hh2 := HLp.out
          have hh3 := HKX.out
          have hh4 := HCp.out
          go_roundg (L - (p + C))
          all_goals (first | omega | exact ⟨p + C, ps ++ [(p, C)], _, _, _, la', lo + 1, lc', by omega, by omega, by omega, rfl, fun h => absurd h (by omega), rfl, HN.out⟩)
        · go_wp2_with (first | (go_at_call 42; with_reducible refine HS'.out.mono ?_; rintro e w3 ⟨rfl, la', lc', W, HAP, HN⟩) | (at_builtin; refine Lib.wpList_append_run _ rfl _ _ 52 52 rfl (.slice la lo lc) (.slice (some ⟨w3.heap.size, 0, none⟩) 1 1) (by simp [Act.eval]) (by simp [Act.eval]) _ _ (HAP.out _) ?_))
          have hh1 := HRp.out
          have hh2 := HLp.out
          have hh3 := HKX.out
          have hh4 := HCp.out
          go_roundg (L - (p + sz))
          all_goals (first | omega | exact ⟨p + sz, ps ++ [(p, sz)], _, _, _, la', lo + 1, lc', by omega, by omega, by omega, rfl, fun h => ⟨by rw [← HAe.out, Nat.add_assoc], by omega⟩, rfl, HN.out⟩)
    · obtain rfl : p = L := by omega
      have HF' : Hid (P (.returned (.slice la lo lc)) wr) := HF.out _ _ _ _ _ HI.out
      have hz0 : ¬ (0 : Int) < (R : Int) := by omega
      clear HI HF HX KEY HST
      go_wp2_with fail
      exact HF'.out
end Go.Proofs.Ytdeefemeiggolaa

namespace Go.Proofs.Ytdeefemeiggolaa
open Go.RowKit
set_option linter.unusedVariables false
/-! ### The document's Lay -/
theorem Cuts.uniq {L sz : Nat} {ps ps' : List (Nat × Nat)} {p : Nat} (h : Cuts L sz p ps L) (h' : Cuts L sz p ps' L) : ps = ps' := by
  induction ps generalizing p ps' with
  | nil =>
    have e : p = L := h
    cases ps' with
    | nil => rfl
    | cons y r => have := h'.2.1; omega
  | cons x r ih =>
    cases ps' with
    | nil => have e : p = L := h'; have := h.2.1; omega
    | cons y r' =>
      obtain ⟨h1, h2, h3, h4⟩ := h
      obtain ⟨k1, k2, k3, k4⟩ := h'
      have e : x = y := Prod.ext (h1.trans k1.symm) (h3.trans k3.symm)
      subst e
      rw [ih h4 k4]
theorem Cuts.get {L sz : Nat} {ps : List (Nat × Nat)} {p q : Nat} (h : Cuts L sz p ps q) (i : Nat) (x : Nat × Nat) (hx : ps[i]? = some x) : x.1 < L ∧ x.2 = min sz (L - x.1) := by
  induction ps generalizing p i with
  | nil => simp at hx
  | cons y r ih =>
    obtain ⟨h1, h2, h3, h4⟩ := h
    cases i with
    | zero => simp at hx; subst hx; exact ⟨by omega, by rw [h3, h1]⟩
    | succ i => exact ih h4 i (by simpa using hx)
/-- The blocks of the first pieces. -/
def layI (sums : Bool) (plain : List By) (zs : List ((Nat × Nat) × List By)) (i : Nat) : List By := ((zs.take i).map (fun z => blkOf sums (tk plain z.1.1 z.1.2) z.2)).flatten
theorem layI_succ (sums : Bool) (plain : List By) (zs : List ((Nat × Nat) × List By)) (i : Nat) (z : (Nat × Nat) × List By) (h : zs[i]? = some z) : layI sums plain zs (i + 1) = layI sums plain zs i ++ blkOf sums (tk plain z.1.1 z.1.2) z.2 := by
  unfold layI
  obtain ⟨hi, e⟩ := List.getElem?_eq_some_iff.1 h
  rw [List.take_succ_eq_append_getElem hi, e]
  simp
/-- One block. -/
theorem lay_round (K : Nat → Prop) (w0 wr : World) (hK : ∀ k, K k → k < w0.heap.size) (hF : Fr (fun k => ¬ K k) w0 wr) (v7 : Value) (acc : List By) (hM : Mine K v7 acc wr) (hacc : acc.length ≤ 100000000000000) (vx : Value) (bts : List By) (hx : Sl (fun k => ¬ K k) vx bts w0) (hbl : bts.length ≤ 1000000000) (num : Nat) (hnum : num < 4294967296) (S : World → Prop) (hS : ∀ V, Fr (fun k => ¬ K k) w0 V → S V) :
    Hid (Calls Try.prog 28 #[.int .u64 num, .int .i64 4] wr fun e w1 => ∃ a l c, e = .returned (.slice a l c) ∧ ∃ a3 l3 c3 W3, Hid (∀ ty, (Builtin.append_ #[22, 22] ty #[v7, .slice a l c]).run Try.prog w1 = .ok (.slice a3 l3 c3) W3) ∧ ∃ a4 l4 c4 W4, Hid (∀ ty, (Builtin.append_ #[22, 22] ty #[.slice a3 l3 c3, vx]).run Try.prog W3 = .ok (.slice a4 l4 c4) W4) ∧ S W4 ∧ Hid (Mine K (.slice a4 l4 c4) (acc ++ lows num 4 ++ bts) W4 ∧ Fr (fun k => ¬ K k) w0 W4) ∧
      Hid (Calls Try.prog 45 #[.int .u32 0, vx] W4 fun e w5 => ∃ q : Nat, e = .returned (.int .u32 q) ∧ q < 4294967296 ∧ Hid (Calls Try.prog 28 #[.int .u64 q, .int .i64 4] w5 fun e w6 => ∃ a6 l6 c6, e = .returned (.slice a6 l6 c6) ∧ ∃ a8 l8 c8 W8, Hid (∀ ty, (Builtin.append_ #[22, 22] ty #[.slice a4 l4 c4, .slice a6 l6 c6]).run Try.prog w6 = .ok (.slice a8 l8 c8) W8) ∧ Hid (Mine K (.slice a8 l8 c8) (acc ++ lows num 4 ++ bts ++ lows (sm bts) 4) W8 ∧ Fr (fun k => ¬ K k) w0 W8)))) := by
  show Calls _ _ _ _ _
  refine (dlow_any wr num 4 (by omega) (by decide)).mono ?_
  rintro e w1 ⟨a, l, c, rfl, hM1, hN1⟩
  refine ⟨a, l, c, rfl, ?_⟩
  have hF1 : Fr (fun k => ¬ K k) w0 w1 := hF.trans hN1.any
  have hK1 : ∀ {V}, Fr (fun k => ¬ K k) w0 V → ∀ k, K k → k < V.heap.size := fun hV k hk => Nat.lt_of_lt_of_le (hK k hk) hV.size
  obtain ⟨v3, W3, hap3, hM3, hF3⟩ := mine_app K w1 (hK1 hF1) _ _ (hM.nw hN1) _ _ (hM1.old.mono (fun _ h => h.elim)) (by rw [lows_length]; omega)
  obtain ⟨a3, c3, rfl, _, _⟩ := hM3.sl.form
  refine ⟨a3, _, c3, W3, hap3, ?_⟩
  have hF3' := hF1.trans hF3
  have hx3 : Sl (fun k => ¬ K k) vx bts W3 := hx.kept hF3' (fun _ h => h)
  obtain ⟨v4, W4, hap4, hM4, hF4⟩ := mine_app K W3 (hK1 hF3') _ _ hM3 _ _ (hx3.mono (fun _ h => h.elim)) (by rw [List.length_append, lows_length]; omega)
  obtain ⟨a4, c4, rfl, _, _⟩ := hM4.sl.form
  have hF4' := hF3'.trans hF4
  refine ⟨a4, _, c4, W4, hap4, hS _ hF4', ⟨hM4, hF4'⟩, ?_⟩
  show Calls _ _ _ _ _
  have hx4 : Old W4 vx bts := (hx.kept hF4' (fun _ h => h)).mono (fun k hk hKk => by have := hK1 hF4' k hKk; omega)
  refine (rsum32_any 0#32 _ bts W4 hx4).mono ?_
  rintro e w5 ⟨rfl, hN5⟩
  refine ⟨sm bts, rfl, sm_lt bts, ?_⟩
  show Calls _ _ _ _ _
  have hF5 := hF4'.trans hN5.any
  refine (dlow_any w5 (sm bts) 4 (by have := sm_lt bts; omega) (by decide)).mono ?_
  rintro e w6 ⟨a6, l6, c6, rfl, hM6, hN6⟩
  refine ⟨a6, l6, c6, rfl, ?_⟩
  have hF6 := hF5.trans hN6.any
  obtain ⟨v8, W8, hap8, hM8, hF8⟩ := mine_app K w6 (hK1 hF6) _ _ ((hM4.nw hN5).nw hN6) _ _ (hM6.old.mono (fun _ h => h.elim)) (by rw [List.length_append, List.length_append, lows_length, lows_length]; omega)
  obtain ⟨a8, c8, rfl, _, _⟩ := hM8.sl.form
  exact ⟨a8, _, c8, W8, hap8, hM8, hF6.trans hF8⟩
end Go.Proofs.Ytdeefemeiggolaa

namespace Go.Proofs.Ytdeefemeiggolaa
open Go.RowKit
set_option linter.unusedVariables false
theorem layI_length (sums : Bool) (plain : List By) (zs : List ((Nat × Nat) × List By)) (i : Nat) (hpl : plain.length ≤ 4194304) (hi : i ≤ 4194304) : (layI sums plain zs i).length ≤ 20000000000000 := by
  have key : ∀ l : List ((Nat × Nat) × List By), ((l.map (fun z => blkOf sums (tk plain z.1.1 z.1.2) z.2)).flatten).length ≤ l.length * 4194312 := by
    intro l
    induction l with
    | nil => simp
    | cons z r ih =>
      have h1 := blkOf_length sums (tk plain z.1.1 z.1.2) z.2
      have h2 : (tk plain z.1.1 z.1.2).length ≤ 4194304 := by unfold tk; rw [List.length_take, List.length_drop]; omega
      simp only [List.map_cons, List.flatten_cons, List.length_append, List.length_cons]
      omega
  have := key (zs.take i)
  have h3 : (zs.take i).length ≤ i := by rw [List.length_take]; omega
  unfold layI
  omega
theorem lay_end (K : Nat → Prop) (w0 wr : World) (hK : ∀ k, K k → k < w0.heap.size) (hF : Fr (fun k => ¬ K k) w0 wr) (v7 : Value) (acc : List By) (hM : Mine K v7 acc wr) (hacc : acc.length ≤ 100000000000000) (vx : Value) (bts : List By) (hx : Sl (fun k => ¬ K k) vx bts w0) :
    ∃ a4 l4 c4 W4, Hid (∀ ty, (Builtin.append_ #[22, 22] ty #[v7, .slice (some ⟨wr.heap.size, 0, none⟩) 4 4]).run Try.prog (wr.alloc (.cells #[.int .u8 0, .int .u8 0, .int .u8 0, .int .u8 0] 5)) = .ok (.slice a4 l4 c4) W4) ∧ Hid (Mine K (.slice a4 l4 c4) (acc ++ lows 0 4) W4 ∧ Fr (fun k => ¬ K k) w0 W4) ∧
      Hid (Calls Try.prog 45 #[.int .u32 0, vx] W4 fun e w5 => ∃ q : Nat, e = .returned (.int .u32 q) ∧ q < 4294967296 ∧ Hid (Calls Try.prog 28 #[.int .u64 q, .int .i64 4] w5 fun e w6 => ∃ a6 l6 c6, e = .returned (.slice a6 l6 c6) ∧ ∃ a8 l8 c8 W8, Hid (∀ ty, (Builtin.append_ #[22, 22] ty #[.slice a4 l4 c4, .slice a6 l6 c6]).run Try.prog w6 = .ok (.slice a8 l8 c8) W8) ∧ Hid (Mine K (.slice a8 l8 c8) (acc ++ lows 0 4 ++ lows (sm bts) 4) W8 ∧ Fr (fun k => ¬ K k) w0 W8))) := by
  have hK1 : ∀ {V}, Fr (fun k => ¬ K k) w0 V → ∀ k, K k → k < V.heap.size := fun hV k hk => Nat.lt_of_lt_of_le (hK k hk) hV.size
  have hM5 := own_four wr K 0#8 0#8 0#8 0#8 (hK1 hF)
  have hN5 : Nw wr (wr.alloc (.cells #[.int .u8 (0#8).toNat, .int .u8 (0#8).toNat, .int .u8 (0#8).toNat, .int .u8 (0#8).toNat] 5)) := (Fr.refl _ _).alloc _
  have hFn := hF.trans hN5.any
  obtain ⟨v4, W4, hap4, hM4, hF4⟩ := mine_app K _ (hK1 hFn) _ _ (hM.nw hN5) _ _ (hM5.old.mono (fun _ h => h.elim)) (by simp; omega)
  obtain ⟨a4, c4, rfl, _, _⟩ := hM4.sl.form
  have hF4' := hFn.trans hF4
  refine ⟨a4, _, c4, W4, hap4, ⟨hM4, hF4'⟩, ?_⟩
  show Calls _ _ _ _ _
  have hx4 : Old W4 vx bts := (hx.kept hF4' (fun _ h => h)).mono (fun k hk hKk => by have := hK1 hF4' k hKk; omega)
  refine (rsum32_any 0#32 _ bts W4 hx4).mono ?_
  rintro e w5 ⟨rfl, hN5⟩
  refine ⟨sm bts, rfl, sm_lt bts, ?_⟩
  show Calls _ _ _ _ _
  have hF5 := hF4'.trans hN5.any
  refine (dlow_any w5 (sm bts) 4 (by have := sm_lt bts; omega) (by decide)).mono ?_
  rintro e w6 ⟨a6, l6, c6, rfl, hM6, hN6⟩
  refine ⟨a6, l6, c6, rfl, ?_⟩
  have hF6 := hF5.trans hN6.any
  obtain ⟨v8, W8, hap8, hM8, hF8⟩ := mine_app K w6 (hK1 hF6) _ _ ((hM4.nw hN5).nw hN6) _ _ (hM6.old.mono (fun _ h => h.elim)) (by simp [lows_length]; omega)
  obtain ⟨a8, c8, rfl, _, _⟩ := hM8.sl.form
  exact ⟨a8, _, c8, W8, hap8, hM8, hF6.trans hF8⟩
end Go.Proofs.Ytdeefemeiggolaa

namespace Go.Proofs.Ytdeefemeiggolaa
open Go.RowKit
set_option linter.unusedVariables false
set_option maxHeartbeats 40000000 in
set_option maxRecDepth 100000 in
theorem dLay_any (w : World) (s : Shp) (h1 : 4 ≤ s.block) (h2 : s.block ≤ 7) (a : Option Addr) (g o L c : Nat) (plain : List By) (hL : plain.length = L) (hp : Old w (.slice a L c) plain) (ha : 0 < L → a = some ⟨g, o, none⟩ ∧ g < w.heap.size ∧ Rd g o plain w) (hLc : L ≤ c) (hc : c < 9223372036854775808) (hLl : L ≤ 4194304)
    (ps : List (Nat × Nat)) (hps : Cuts L (2 ^ (8 + 2 * s.block)) 0 ps L) (bks : List (List By)) (hbk : bks.length = ps.length) (a2 : Option Addr) (g2 M c2 : Nat) (hM : ps.length = M) (ha2 : 0 < M → a2 = some ⟨g2, 0, none⟩)
    (hB : ∀ i bk, bks[i]? = some bk → ∃ va vc, w.cell? ⟨g2, i, none⟩ = some (.slice va bk.length vc) ∧ Old w (.slice va bk.length vc) bk ∧ bk.length ≤ 100000000) :
    Calls Try.prog 26 #[.slice a L c, .agg #[.int .i64 s.block, .bool s.alone, .bool s.bsum, .bool s.csum, .bool s.csize], .slice a2 M c2] w fun e w' => ∃ a' l' c', e = .returned (.slice a' l' c') ∧ Mine (fun k => k < w.heap.size) (.slice a' l' c') (frameB s plain (layI s.bsum plain (ps.zip bks) M)) w' ∧ Nw w w' := by
  obtain ⟨P, hP⟩ : ∃ P : Ending → World → Prop, P = fun e w' => ∃ a' l' c', e = .returned (.slice a' l' c') ∧ Mine (fun k => k < w.heap.size) (.slice a' l' c') (frameB s plain (layI s.bsum plain (ps.zip bks) M)) w' ∧ Nw w w' := ⟨_, rfl⟩
  rw [← hP]
  obtain ⟨W1, hW1⟩ : ∃ W1, w.alloc (.cells #[.int .i64 s.block, .bool s.alone, .bool s.bsum, .bool s.csum, .bool s.csize] 24) = W1 := ⟨_, rfl⟩
  have hrow : W1.heap[w.heap.size]? = some (.cells #[.int .i64 s.block, .bool s.alone, .bool s.bsum, .bool s.csum, .bool s.csize] 24) := by
    rw [← hW1]
    show (w.heap.push _)[w.heap.size]? = _
    rw [Array.getElem?_push_size]
  have hN1 : Nw w W1 := by rw [← hW1]; exact (Fr.refl _ _).alloc _
  have hs1 : W1.heap.size = w.heap.size + 1 := by rw [← hW1]; simp
  have hMl : M ≤ 4194304 := by have := hps.le (Nat.one_le_two_pow); omega
  have HH : Hid (Calls Try.prog 44 #[.agg #[.int .i64 s.block, .bool s.alone, .bool s.bsum, .bool s.csum, .bool s.csize], .int .i64 L] W1 fun e w3 => ∃ a3 l3 c3, e = .returned (.slice a3 l3 c3) ∧ (w3.cell? ⟨w.heap.size, 0, none⟩ = some (.int .i64 s.block) ∧ w3.cell? ⟨w.heap.size, 1, none⟩ = some (.bool s.alone) ∧ w3.cell? ⟨w.heap.size, 2, none⟩ = some (.bool s.bsum) ∧ w3.cell? ⟨w.heap.size, 3, none⟩ = some (.bool s.csum) ∧ w3.cell? ⟨w.heap.size, 4, none⟩ = some (.bool s.csize)) ∧ Hid (Calls Try.prog 24 #[.slice a L c, .agg #[.int .i64 s.block, .bool s.alone, .bool s.bsum, .bool s.csum, .bool s.csize]] w3 fun e w4 => ∃ a4 c4, e = .returned (.slice a4 M c4) ∧ ∃ K : Nat → Prop, Hid ((∀ k, K k → k < w4.heap.size) ∧ (∀ k, k ≤ w.heap.size → K k) ∧ MineV (fun k => ¬ K k) (.slice a4 M c4) (ps.map (pv g o c)) w4 ∧ Mine K (.slice a3 l3 c3) (lows 407708164 4 ++ fhead s L) w4 ∧ Nw W1 w4))) := by
    show Calls _ _ _ _ _
    refine (dhead_any W1 s h1 h2 L hLl).mono ?_
    rintro e w3 ⟨a3, l3, c3, rfl, hM3, hN3⟩
    have hcell := fun j v (hv : (#[Value.int .i64 s.block, .bool s.alone, .bool s.bsum, .bool s.csum, .bool s.csize] : Array Value)[j]? = some v) => hN3.cell (row_cell hrow j v hv).1
    refine ⟨a3, l3, c3, rfl, ⟨hcell 0 _ rfl, hcell 1 _ rfl, hcell 2 _ rfl, hcell 3 _ rfl, hcell 4 _ rfl⟩, ?_⟩
    show Calls _ _ _ _ _
    refine (dPieces_any w3 s h1 h2 a g o L c (fun h => (ha h).1) hLc hc hLl).mono ?_
    rintro e w4 ⟨a4, ps', c4, rfl, hcu, hMV, hN4⟩
    obtain rfl := hps.uniq hcu
    subst hM
    refine ⟨a4, c4, rfl, fun k => k < w4.heap.size ∧ (k < W1.heap.size ∨ w3.heap.size ≤ k), fun k hk => hk.1, fun k hk => ⟨?_, .inl (by omega)⟩, ?_, ?_, hN3.trans hN4⟩
    · have := (hN3.trans hN4).size; omega
    · rcases hMV with h | ⟨gl, h3, h4⟩
      · exact .inl h
      · exact .inr ⟨gl, fun hk => hk ⟨h4.lt, .inr (by omega)⟩, h4⟩
    · rcases hM3 with h | ⟨g3, h3, h4⟩
      · exact .inl h
      · refine .inr ⟨g3, fun hk => ?_, h4.nw hN4⟩
        have := h4.lt
        rcases hk.2 with hk | hk
        · exact h3 hk
        · omega
  have HFIN : Hid (∀ V a' l' c', Mine (fun k => k < w.heap.size) (.slice a' l' c') (frameB s plain (layI s.bsum plain (ps.zip bks) M)) V ∧ Nw w V → P (.returned (.slice a' l' c')) V) := fun V a' l' c' h => by rw [hP]; exact ⟨a', l', c', rfl, h⟩
  have HW1 : Hid (w.alloc (.cells #[.int .i64 s.block, .bool s.alone, .bool s.bsum, .bool s.csum, .bool s.csize] 24) = W1) := hW1
  have HALL : Hid (plain.length = L ∧ Old w (.slice a L c) plain ∧ (0 < L → a = some ⟨g, o, none⟩ ∧ g < w.heap.size ∧ Rd g o plain w) ∧ Cuts L (2 ^ (8 + 2 * s.block)) 0 ps L ∧ bks.length = ps.length ∧ ps.length = M ∧ (0 < M → a2 = some ⟨g2, 0, none⟩) ∧ (∀ i bk, bks[i]? = some bk → ∃ va vc, w.cell? ⟨g2, i, none⟩ = some (.slice va bk.length vc) ∧ Old w (.slice va bk.length vc) bk ∧ bk.length ≤ 100000000) ∧ Nw w W1 ∧ W1.heap[w.heap.size]? = some (.cells #[.int .i64 s.block, .bool s.alone, .bool s.bsum, .bool s.csum, .bool s.csize] 24)) := ⟨hL, hp, ha, hps, hbk, hM, ha2, hB, hN1, hrow⟩
  clear hP hrow hN1 hW1 hL hp ha hps hbk hM ha2 hB hs1
  obtain ⟨e0, e1, e2, e3, e4⟩ : W1.cell? ⟨w.heap.size, 0, none⟩ = some (.int .i64 s.block) ∧ W1.cell? ⟨w.heap.size, 1, none⟩ = some (.bool s.alone) ∧ W1.cell? ⟨w.heap.size, 2, none⟩ = some (.bool s.bsum) ∧ W1.cell? ⟨w.heap.size, 3, none⟩ = some (.bool s.csum) ∧ W1.cell? ⟨w.heap.size, 4, none⟩ = some (.bool s.csize) := by
    have hrow := HALL.out.2.2.2.2.2.2.2.2.2
    exact ⟨(row_cell hrow 0 _ rfl).1, (row_cell hrow 1 _ rfl).1, (row_cell hrow 2 _ rfl).1, (row_cell hrow 3 _ rfl).1, (row_cell hrow 4 _ rfl).1⟩
  go_enter Try.func26, Try.ntmps26
  go_upto_region 1 with fail
  rw [HW1.out]
  go_wp2_with (first | (go_at_call 44; with_reducible refine HH.out.mono ?_; rintro e w3 ⟨a3, l3, c3, rfl, ⟨y0, y1, y2, y3, y4⟩, HPC⟩) | (go_at_call 24; with_reducible refine HPC.out.mono ?_; rintro e w4 ⟨ap, cp, rfl, K, HK⟩))
  clear HH HPC e0 e1 e2 e3 e4 y0 y1 y2 y3 y4
  go_loopg [7, 9] M (fun kx vout vi wr => ∃ (i : Nat) (a7 : Option Addr) (l7 c7 : Nat), i ≤ M ∧ M - i ≤ kx ∧ vi = .int .i64 i ∧ vout = .slice a7 l7 c7 ∧ Hid (Mine K (.slice a7 l7 c7) (lows 407708164 4 ++ fhead s L ++ layI s.bsum plain (ps.zip bks) i) wr ∧ Fr (fun k => ¬ K k) w4 wr))
  case atStart =>
    refine ⟨0, a3, l3, c3, by omega, by omega, rfl, rfl, ?_, Fr.refl _ _⟩
    have : layI s.bsum plain (ps.zip bks) 0 = [] := by unfold layI; simp
    rw [this, List.append_nil]; exact HK.out.2.2.2.1
  case round =>
    obtain ⟨i, a7, l7, c7, hi, hkx, rfl, rfl, HI⟩ := hrel
    have hKw : ∀ k, K k → k < w4.heap.size := HK.out.1
    have hKl : ∀ k, k ≤ w.heap.size → K k := HK.out.2.1
    have hN4 : Nw w w4 := HALL.out.2.2.2.2.2.2.2.2.1.trans HK.out.2.2.2.2
    have hcell : ∀ {q : Addr} {v : Value}, w4.cell? q = some v → K q.block → wr.cell? q = some v := fun h hk => HI.out.2.cellv h (fun hx => hx hk)
    have hrow4 := HK.out.2.2.2.2.heap HALL.out.2.2.2.2.2.2.2.2.2
    have z2 : wr.cell? ⟨w.heap.size, 2, none⟩ = some (.bool s.bsum) := hcell (row_cell hrow4 2 _ rfl).1 (hKl _ (Nat.le_refl _))
    have z3 : wr.cell? ⟨w.heap.size, 3, none⟩ = some (.bool s.csum) := hcell (row_cell hrow4 3 _ rfl).1 (hKl _ (Nat.le_refl _))
    have hacc : (lows 407708164 4 ++ fhead s L ++ layI s.bsum plain (ps.zip bks) i).length ≤ 100000000000000 := by
      have h5 := layI_length s.bsum plain (ps.zip bks) i (by rw [HALL.out.1]; exact hLl) (by omega)
      have h6 : (fhead s L).length ≤ 20 := by unfold fhead fhd; split <;> simp [lows_length]
      rw [List.length_append, List.length_append, lows_length]; omega
    have hslw : ∀ {v : Value} {l : List By}, Old w v l → Sl (fun k => ¬ K k) v l w4 := fun h => (Sl.nw h hN4).mono (fun k hk => by
      by_cases hx : w.heap.size ≤ k
      · exact hx
      · exact absurd (hKl k (by omega)) hk)
    by_cases hlt : i < M
    · obtain ⟨hL, hp, ha, hps, hbk, hM, ha2, hB, hN1, hrow⟩ := HALL.out
      obtain ⟨x, hx⟩ : ∃ x, ps[i]? = some x := ⟨_, List.getElem?_eq_getElem (by omega)⟩
      obtain ⟨bk, hbki⟩ : ∃ bk, bks[i]? = some bk := ⟨_, List.getElem?_eq_getElem (by omega)⟩
      obtain ⟨hxl, hxm⟩ := hps.get i x hx
      have hz : (ps.zip bks)[i]? = some (x, bk) := List.getElem?_zip_eq_some.2 ⟨hx, hbki⟩
      obtain ⟨va, vc, hcb, hob, hbkl⟩ := hB i bk hbki
      obtain ⟨rfl, hgw, hrd⟩ := ha (by omega)
      obtain rfl := ha2 (by omega)
      have zb := hcell (hN4.cell hcb) (hKl _ (Nat.le_of_lt (World.block_lt_of_cell? _ _ hcb)))
      obtain ⟨gl, hgl, hap, hOl⟩ : ∃ gl, K gl ∧ ap = some ⟨gl, 0, none⟩ ∧ OwV gl (.slice ap M cp) (ps.map (pv g o c)) w4 := by
        rcases HK.out.2.2.1 with ⟨_, h⟩ | ⟨gl, h3, h4⟩
        · rw [List.map_eq_nil_iff] at h; rw [h] at hx; simp at hx
        · obtain ⟨_, e3, _, _⟩ := h4.form
          injection e3 with e3
          exact ⟨gl, Classical.not_not.1 h3, e3, h4⟩
      subst hap
      have zp := hcell (hOl.cell i (pv g o c x) (by rw [List.getElem?_map, hx]; rfl)).1 hgl
      obtain ⟨f, m⟩ := x
      simp only [pv] at zp hxl hxm
      have hmL : f + m ≤ L := by rw [hxm]; omega
      have htk : (tk plain f m).length = m := tk_length plain f m (by omega)
      have hsp : Sl (fun k => ¬ K k) (.slice (some ⟨g, o + f, none⟩) m (c - f)) (tk plain f m) w4 := by
        refine .inr ⟨g, fun h => h (hKl g (by omega)), o + f, c - f, by rw [htk], by rw [htk]; omega, by omega, ?_⟩
        exact Rd.nw ((hrd.drop f).take m) hN4
      have hsb := hslw hob
      have hsucc := layI_succ s.bsum plain (ps.zip bks) i ((f, m), bk) hz
      simp only at hsucc
      obtain ⟨bl, hbl⟩ : ∃ bl, bk.length = bl := ⟨_, rfl⟩
      rw [hbl] at zb hsb hbkl
      obtain ⟨of, hof⟩ : ∃ of, o + f = of := ⟨_, rfl⟩
      obtain ⟨cf, hcf⟩ : ∃ cf, c - f = cf := ⟨_, rfl⟩
      rw [hof, hcf] at zp hsp
      have hzi : (i : Int) < (M : Int) := by omega
      have hml : m ≤ 4194304 := by omega
      by_cases hpl : m ≤ bl
      · have hst : stnum (tk plain f m) bk = m + 2147483648 ∧ stood (tk plain f m) bk = tk plain f m := by
          have : plainer (tk plain f m) bk = true := by unfold plainer; rw [htk, hbl]; exact decide_eq_true hpl
          unfold stnum stood; rw [this, htk]; exact ⟨rfl, rfl⟩
        obtain ⟨num, hnum⟩ : ∃ num, m + 2147483648 = num := ⟨_, rfl⟩
        have HR := lay_round K w4 wr hKw HI.out.2 _ _ HI.out.1 hacc _ _ hsp (by rw [htk]; omega) num (by omega) (fun V => V.cell? ⟨w.heap.size, 2, none⟩ = some (.bool s.bsum)) (fun V hV => hV.cellv (row_cell hrow4 2 _ rfl).1 (fun hx => hx (hKl _ (Nat.le_refl _))))
        have hblk : blkOf s.bsum (tk plain f m) bk = lows num 4 ++ tk plain f m ++ (if s.bsum = true then lows (sm (tk plain f m)) 4 else []) := by unfold blkOf; rw [hst.1, hst.2, hnum]
        have HE1 : Hid (s.bsum = false → ∀ v V, Mine K v (lows 407708164 4 ++ fhead s L ++ layI s.bsum plain (ps.zip bks) i ++ lows num 4 ++ tk plain f m) V ∧ Fr (fun k => ¬ K k) w4 V → Hid (Mine K v (lows 407708164 4 ++ fhead s L ++ layI s.bsum plain (ps.zip bks) (i + 1)) V ∧ Fr (fun k => ¬ K k) w4 V)) := by
          intro hbs v V h
          refine ⟨?_, h.2⟩
          rw [hsucc, hblk, if_neg (by rw [hbs]; decide)]
          have := h.1
          simp only [List.append_assoc, List.append_nil] at this ⊢
          exact this
        have HE2 : Hid (s.bsum = true → ∀ v V, Mine K v (lows 407708164 4 ++ fhead s L ++ layI s.bsum plain (ps.zip bks) i ++ lows num 4 ++ tk plain f m ++ lows (sm (tk plain f m)) 4) V ∧ Fr (fun k => ¬ K k) w4 V → Hid (Mine K v (lows 407708164 4 ++ fhead s L ++ layI s.bsum plain (ps.zip bks) (i + 1)) V ∧ Fr (fun k => ¬ K k) w4 V)) := by
          intro hbs v V h
          refine ⟨?_, h.2⟩
          rw [hsucc, hblk, if_pos hbs]
          have := h.1
          simp only [List.append_assoc] at this ⊢
          exact this
        have q1 : (m : Int) ≤ (bl : Int) := by omega
        have q2 : (m : Int) + 2147483648 = (num : Int) := by omega
        have q3 : IntKind.u64.wrap (num : Int) = (num : Int) := by rw [IntKind.wrap_u64]; omega
        have q4 : IntKind.u64.wrap (m : Int) = (m : Int) := by rw [IntKind.wrap_u64]; omega
        clear HALL HK HI hKw hKl hN4 hcell hrow4 hslw hacc hL hp hps hbk hM ha2 hB hN1 hrow hx hbki hxm hz hcb hob hrd hOl htk hsp hsb hsucc hst hblk HFIN ha hmL hof hcf hbl hgl hgw hbkl z3
        generalize layI s.bsum plain (ps.zip bks) i = ac at HR HE1 HE2
        have hbc : s.bsum = false ∨ s.bsum = true := by cases s.bsum <;> simp
        rcases hbc with hbs | hbs
        · have HE := HE1.out hbs
          have HEE : Hid _ := HE
          rw [hbs] at z2 HR
          clear HE1 HE2 HE
          have HBS : Hid _ := hbs
          clear hbs
          go_wp2_with (first | (go_at_call 28; with_reducible refine HR.out.mono ?_; rintro e w1 ⟨a1, l1, c1, rfl, a3, l3, c3, W3, HAP3, a4, l4, c4, W4, HAP4, hS4, HM4, HSM⟩) | (at_builtin; refine Lib.wpList_append_run _ rfl _ _ 22 22 rfl (.slice a7 l7 c7) (.slice a1 l1 c1) (by simp [Act.eval]) (by simp [Act.eval]) _ _ (HAP3.out _) ?_) | (at_builtin; refine Lib.wpList_append_run _ rfl _ _ 22 22 rfl (.slice a3 l3 c3) (.slice (some ⟨g, of, none⟩) m cf) (by simp [Act.eval]) (by simp [Act.eval]) _ _ (HAP4.out _) ?_))
          go_roundg (M - (i + 1))
          all_goals (first | omega | exact ⟨i + 1, a4, l4, c4, by omega, by omega, by first | rfl | (congr 1), rfl, HEE.out _ _ HM4.out⟩)
        · have HE := HE2.out hbs
          have HEE : Hid _ := HE
          rw [hbs] at z2 HR
          clear HE1 HE2 HE
          have HBS : Hid _ := hbs
          clear hbs
          go_wp2_with (first | (go_at_call 28; with_reducible refine HR.out.mono ?_; rintro e w1 ⟨a1, l1, c1, rfl, a3, l3, c3, W3, HAP3, a4, l4, c4, W4, HAP4, hS4, HM4, HSM⟩) | (at_builtin; refine Lib.wpList_append_run _ rfl _ _ 22 22 rfl (.slice a7 l7 c7) (.slice a1 l1 c1) (by simp [Act.eval]) (by simp [Act.eval]) _ _ (HAP3.out _) ?_) | (at_builtin; refine Lib.wpList_append_run _ rfl _ _ 22 22 rfl (.slice a3 l3 c3) (.slice (some ⟨g, of, none⟩) m cf) (by simp [Act.eval]) (by simp [Act.eval]) _ _ (HAP4.out _) ?_) | (go_at_call 45; with_reducible refine HSM.out.mono ?_; rintro e w5 ⟨q, rfl, hq, HL2⟩) | (go_at_call 28; with_reducible refine HL2.out.mono ?_; rintro e w6 ⟨a6, l6, c6, rfl, a8, l8, c8, W8, HAP8, HM8⟩) | (at_builtin; refine Lib.wpList_append_run _ rfl _ _ 22 22 rfl (.slice a4 l4 c4) (.slice a6 l6 c6) (by simp [Act.eval]) (by simp [Act.eval]) _ _ (HAP8.out _) ?_))
          go_roundg (M - (i + 1))
          all_goals (first | omega | exact ⟨i + 1, a8, l8, c8, by omega, by omega, by first | rfl | (congr 1), rfl, HEE.out _ _ HM8.out⟩)
      · have hst : stnum (tk plain f m) bk = bl ∧ stood (tk plain f m) bk = bk := by
          have : plainer (tk plain f m) bk = false := by unfold plainer; rw [htk, hbl]; exact decide_eq_false hpl
          unfold stnum stood; rw [this, hbl]; exact ⟨rfl, rfl⟩
        obtain ⟨num, hnum⟩ : ∃ num, bl = num := ⟨_, rfl⟩
        have HR := lay_round K w4 wr hKw HI.out.2 _ _ HI.out.1 hacc _ _ hsb (by rw [hbl]; omega) num (by omega) (fun V => V.cell? ⟨w.heap.size, 2, none⟩ = some (.bool s.bsum)) (fun V hV => hV.cellv (row_cell hrow4 2 _ rfl).1 (fun hx => hx (hKl _ (Nat.le_refl _))))
        have hblk : blkOf s.bsum (tk plain f m) bk = lows num 4 ++ bk ++ (if s.bsum = true then lows (sm bk) 4 else []) := by unfold blkOf; rw [hst.1, hst.2, hnum]
        have HE1 : Hid (s.bsum = false → ∀ v V, Mine K v (lows 407708164 4 ++ fhead s L ++ layI s.bsum plain (ps.zip bks) i ++ lows num 4 ++ bk) V ∧ Fr (fun k => ¬ K k) w4 V → Hid (Mine K v (lows 407708164 4 ++ fhead s L ++ layI s.bsum plain (ps.zip bks) (i + 1)) V ∧ Fr (fun k => ¬ K k) w4 V)) := by
          intro hbs v V h
          refine ⟨?_, h.2⟩
          rw [hsucc, hblk, if_neg (by rw [hbs]; decide)]
          have := h.1
          simp only [List.append_assoc, List.append_nil] at this ⊢
          exact this
        have HE2 : Hid (s.bsum = true → ∀ v V, Mine K v (lows 407708164 4 ++ fhead s L ++ layI s.bsum plain (ps.zip bks) i ++ lows num 4 ++ bk ++ lows (sm bk) 4) V ∧ Fr (fun k => ¬ K k) w4 V → Hid (Mine K v (lows 407708164 4 ++ fhead s L ++ layI s.bsum plain (ps.zip bks) (i + 1)) V ∧ Fr (fun k => ¬ K k) w4 V)) := by
          intro hbs v V h
          refine ⟨?_, h.2⟩
          rw [hsucc, hblk, if_pos hbs]
          have := h.1
          simp only [List.append_assoc] at this ⊢
          exact this
        have q1 : ¬ (m : Int) ≤ (bl : Int) := by omega
        subst hnum
        have q2 : IntKind.u64.wrap (bl : Int) = (bl : Int) := by rw [IntKind.wrap_u64]; omega
        clear HALL HK HI hKw hKl hN4 hcell hrow4 hslw hacc hL hp hps hbk hM ha2 hB hN1 hrow hx hbki hxm hz hcb hob hrd hOl htk hsp hsb hsucc hst hblk HFIN ha hmL hof hcf hbl hgl hgw hbkl z3
        generalize layI s.bsum plain (ps.zip bks) i = ac at HR HE1 HE2
        have hbc : s.bsum = false ∨ s.bsum = true := by cases s.bsum <;> simp
        rcases hbc with hbs | hbs
        · have HE := HE1.out hbs
          have HEE : Hid _ := HE
          rw [hbs] at z2 HR
          clear HE1 HE2 HE
          have HBS : Hid _ := hbs
          clear hbs
          go_wp2_with (first | (go_at_call 28; with_reducible refine HR.out.mono ?_; rintro e w1 ⟨a1, l1, c1, rfl, a3, l3, c3, W3, HAP3, a4, l4, c4, W4, HAP4, hS4, HM4, HSM⟩) | (at_builtin; refine Lib.wpList_append_run _ rfl _ _ 22 22 rfl (.slice a7 l7 c7) (.slice a1 l1 c1) (by simp [Act.eval]) (by simp [Act.eval]) _ _ (HAP3.out _) ?_) | (at_builtin; refine Lib.wpList_append_run _ rfl _ _ 22 22 rfl (.slice a3 l3 c3) (.slice va bl vc) (by simp [Act.eval]) (by simp [Act.eval]) _ _ (HAP4.out _) ?_))
          go_roundg (M - (i + 1))
          all_goals (first | omega | exact ⟨i + 1, a4, l4, c4, by omega, by omega, by first | rfl | (congr 1), rfl, HEE.out _ _ HM4.out⟩)
        · have HE := HE2.out hbs
          have HEE : Hid _ := HE
          rw [hbs] at z2 HR
          clear HE1 HE2 HE
          have HBS : Hid _ := hbs
          clear hbs
          go_wp2_with (first | (go_at_call 28; with_reducible refine HR.out.mono ?_; rintro e w1 ⟨a1, l1, c1, rfl, a3, l3, c3, W3, HAP3, a4, l4, c4, W4, HAP4, hS4, HM4, HSM⟩) | (at_builtin; refine Lib.wpList_append_run _ rfl _ _ 22 22 rfl (.slice a7 l7 c7) (.slice a1 l1 c1) (by simp [Act.eval]) (by simp [Act.eval]) _ _ (HAP3.out _) ?_) | (at_builtin; refine Lib.wpList_append_run _ rfl _ _ 22 22 rfl (.slice a3 l3 c3) (.slice va bl vc) (by simp [Act.eval]) (by simp [Act.eval]) _ _ (HAP4.out _) ?_) | (go_at_call 45; with_reducible refine HSM.out.mono ?_; rintro e w5 ⟨q, rfl, hq, HL2⟩) | (go_at_call 28; with_reducible refine HL2.out.mono ?_; rintro e w6 ⟨a6, l6, c6, rfl, a8, l8, c8, W8, HAP8, HM8⟩) | (at_builtin; refine Lib.wpList_append_run _ rfl _ _ 22 22 rfl (.slice a4 l4 c4) (.slice a6 l6 c6) (by simp [Act.eval]) (by simp [Act.eval]) _ _ (HAP8.out _) ?_))
          go_roundg (M - (i + 1))
          all_goals (first | omega | exact ⟨i + 1, a8, l8, c8, by omega, by omega, by first | rfl | (congr 1), rfl, HEE.out _ _ HM8.out⟩)
    · obtain rfl : i = M := by omega
      have hz1 : ¬ (i : Int) < (i : Int) := by omega
      obtain ⟨hL, hp, _⟩ := HALL.out
      obtain ⟨a4, l4, c4, W4, HAP4, HM4, HSM⟩ := lay_end K w4 wr hKw HI.out.2 _ _ HI.out.1 hacc _ _ (hslw hp)
      have z3' : W4.cell? ⟨w.heap.size, 3, none⟩ = some (.bool s.csum) := HM4.out.2.cellv (row_cell hrow4 3 _ rfl).1 (fun hx => hx (hKl _ (Nat.le_refl _)))
      have hfr : ∀ v l V, Mine K v l V ∧ Fr (fun k => ¬ K k) w4 V → Mine (fun k => k < w.heap.size) v l V ∧ Nw w V := by
        intro v l V h
        refine ⟨?_, Fr.then hN4 h.2 (fun k hk => .inr ?_)⟩
        · rcases h.1 with h | ⟨g3, h3, h4⟩
          · exact .inl h
          · exact .inr ⟨g3, fun hk => h3 (hKl g3 (by omega)), h4⟩
        · by_cases hx : w.heap.size ≤ k
          · exact hx
          · exact absurd (hKl k (by omega)) hk
      have HE1 : Hid (s.csum = false → P (.returned (.slice a4 l4 c4)) W4) := fun h => HFIN.out _ _ _ _ (by
        have := hfr _ _ _ HM4.out
        unfold frameB; rw [hL, if_neg (by rw [h]; decide), List.append_nil]; exact this)
      have HE2 : Hid (s.csum = true → ∀ a8 l8 c8 W8, Mine K (.slice a8 l8 c8) (lows 407708164 4 ++ fhead s L ++ layI s.bsum plain (ps.zip bks) i ++ lows 0 4 ++ lows (sm plain) 4) W8 ∧ Fr (fun k => ¬ K k) w4 W8 → P (.returned (.slice a8 l8 c8)) W8) := fun h a8 l8 c8 W8 hh => HFIN.out _ _ _ _ (by
        have := hfr _ _ _ hh
        unfold frameB; rw [hL, if_pos h]; exact this)
      clear HALL HK HI hKw hKl hN4 hcell hrow4 hslw hacc hL hp HFIN hfr HM4 z2 z3
      cases hcs : s.csum with
      | false =>
        have HF : Hid _ := HE1.out hcs
        rw [hcs] at z3'
        clear HE1 HE2
        go_wp2_with (first | (at_builtin; refine Lib.wpList_append_run _ rfl _ _ 22 22 rfl (.slice a7 l7 c7) (.slice (some ⟨wr.heap.size, 0, none⟩) 4 4) (by simp [Act.eval]) (by simp [Act.eval]) _ _ (HAP4.out _) ?_) | (go_at_call 45; with_reducible refine HSM.out.mono ?_; rintro e w5 ⟨q, rfl, hq, HL2⟩) | (go_at_call 28; with_reducible refine HL2.out.mono ?_; rintro e w6 ⟨a6, l6, c6, rfl, a8, l8, c8, W8, HAP8, HM8⟩) | (at_builtin; refine Lib.wpList_append_run _ rfl _ _ 22 22 rfl (.slice a4 l4 c4) (.slice a6 l6 c6) (by simp [Act.eval]) (by simp [Act.eval]) _ _ (HAP8.out _) ?_))
        exact HF.out
      | true =>
        have HF : Hid _ := HE2.out hcs
        rw [hcs] at z3'
        clear HE1 HE2
        go_wp2_with (first | (at_builtin; refine Lib.wpList_append_run _ rfl _ _ 22 22 rfl (.slice a7 l7 c7) (.slice (some ⟨wr.heap.size, 0, none⟩) 4 4) (by simp [Act.eval]) (by simp [Act.eval]) _ _ (HAP4.out _) ?_) | (go_at_call 45; with_reducible refine HSM.out.mono ?_; rintro e w5 ⟨q, rfl, hq, HL2⟩) | (go_at_call 28; with_reducible refine HL2.out.mono ?_; rintro e w6 ⟨a6, l6, c6, rfl, a8, l8, c8, W8, HAP8, HM8⟩) | (at_builtin; refine Lib.wpList_append_run _ rfl _ _ 22 22 rfl (.slice a4 l4 c4) (.slice a6 l6 c6) (by simp [Act.eval]) (by simp [Act.eval]) _ _ (HAP8.out _) ?_))
        exact HF.out _ _ _ _ HM8.out
end Go.Proofs.Ytdeefemeiggolaa

namespace Go.Proofs.Ytdeefemeiggolaa
open Go.RowKit
set_option linter.unusedVariables false
/-! ### What Lay lays is what Encode makes -/
theorem EncB.uniq {s : Shp} {plain : List By} {p : Nat} {x y : List By} (h : EncB s plain p x) (h' : EncB s plain p y) : x = y := by
  induction h generalizing y with
  | fin p hp =>
    cases h' with
    | fin _ _ => rfl
    | step _ bk rest h _ _ => omega
  | step p bk rest hp hE hr ih =>
    cases h' with
    | fin _ h => omega
    | step _ bk' rest' _ hE' hr' =>
      rw [hE.uniq hE', ih hr']
theorem tk_min (plain : List By) (p n : Nat) : tk plain p (min n (plain.length - p)) = tk plain p n := by
  unfold tk
  by_cases h : n ≤ plain.length - p
  · rw [Nat.min_eq_left h]
  · rw [Nat.min_eq_right (by omega), List.take_of_length_le (by rw [List.length_drop]; omega), List.take_of_length_le (by rw [List.length_drop]; omega)]
theorem layI_cons (sums : Bool) (plain : List By) (z : (Nat × Nat) × List By) (zs : List ((Nat × Nat) × List By)) (n : Nat) : layI sums plain (z :: zs) (n + 1) = blkOf sums (tk plain z.1.1 z.1.2) z.2 ++ layI sums plain zs n := by
  unfold layI; simp
theorem layI_encB (s : Shp) (plain : List By) (ps : List (Nat × Nat)) (bks : List (List By)) (p : Nat) (hps : Cuts plain.length (siz s) p ps plain.length) (hl : bks.length = ps.length) (hE : ∀ (i : Nat) (x : Nat × Nat) (bk : List By), ps[i]? = some x → bks[i]? = some bk → EncOf (tk plain x.1 x.2) (if s.alone = true then [] else plain.take x.1) bk) : EncB s plain p (layI s.bsum plain (ps.zip bks) ps.length) := by
  induction ps generalizing p bks with
  | nil =>
    have e : p = plain.length := hps
    have : layI s.bsum plain (([] : List (Nat × Nat)).zip bks) ([] : List (Nat × Nat)).length = [] := by unfold layI; simp
    rw [this]
    exact EncB.fin p (by omega)
  | cons x r ih =>
    cases bks with
    | nil => simp at hl
    | cons bk bs =>
      obtain ⟨h1, h2, h3, h4⟩ := hps
      have hE0 := hE 0 x bk (by simp) (by simp)
      have hE' : ∀ (i : Nat) (x' : Nat × Nat) (bk' : List By), r[i]? = some x' → bs[i]? = some bk' → EncOf (tk plain x'.1 x'.2) (if s.alone = true then [] else plain.take x'.1) bk' := fun i x' bk' a b => hE (i + 1) x' bk' (by simpa using a) (by simpa using b)
      rw [List.zip_cons_cons, List.length_cons, layI_cons]
      have e : tk plain x.1 x.2 = tk plain p (siz s) := by rw [h1, h3, tk_min]
      simp only
      rw [e]
      rw [e, h1] at hE0
      refine EncB.step p bk _ h2 hE0 ?_
      have hl' : bs.length = r.length := by simpa using hl
      by_cases hc : siz s ≤ plain.length - p
      · have e2 : p + x.2 = p + siz s := by rw [h3, Nat.min_eq_left hc]
        rw [e2] at h4
        exact ih bs _ h4 hl' hE'
      · have e2 : p + x.2 = plain.length := by rw [h3, Nat.min_eq_right (by omega)]; omega
        rw [e2] at h4
        cases r with
        | nil =>
          have : layI s.bsum plain (([] : List (Nat × Nat)).zip bs) ([] : List (Nat × Nat)).length = [] := by unfold layI; simp
          rw [this]
          exact EncB.fin _ (by omega)
        | cons y r' => have := h4.2.1; omega
end Go.Proofs.Ytdeefemeiggolaa

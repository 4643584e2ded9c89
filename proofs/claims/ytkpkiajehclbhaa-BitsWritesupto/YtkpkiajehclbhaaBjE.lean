import Derived.Test.YtkpkiajehclbhaaBjD
namespace Go.Proofs.Ytkpkiajehclbhaa
open Go.RowKit
set_option linter.unusedVariables false
variable {wb : Nat} {og : Option Nat} {V n : Nat} {w : World}
theorem bl_val_inj (x y n : Nat) (h : x % 2 ^ n = y % 2 ^ n) : bl x n = bl y n := by
  rw [← bl_mod x n n (Nat.le_refl _), h, bl_mod y n n (Nat.le_refl _)]
theorem bl_join (X m v k : Nat) (hX : X < 2 ^ m) : bl X m ++ bl v k = bl (X + (v % 2 ^ k) * 2 ^ m) (m + k) ∧ X + (v % 2 ^ k) * 2 ^ m < 2 ^ (m + k) := by
  have hlt : X + (v % 2 ^ k) * 2 ^ m < 2 ^ (m + k) := by
    have h1 : v % 2 ^ k < 2 ^ k := Nat.mod_lt _ (Nat.pow_pos (by decide))
    have h2 : (v % 2 ^ k + 1) * 2 ^ m ≤ 2 ^ k * 2 ^ m := Nat.mul_le_mul_right _ h1
    rw [Nat.pow_add, Nat.mul_comm (2 ^ m)]
    rw [Nat.add_mul] at h2
    omega
  refine ⟨?_, hlt⟩
  have e1 : bl (X + (v % 2 ^ k) * 2 ^ m) (m + k) = (bl (X + (v % 2 ^ k) * 2 ^ m) (m + k)).take m ++ (bl (X + (v % 2 ^ k) * 2 ^ m) (m + k)).drop m := (List.take_append_drop _ _).symm
  rw [e1, bl_take _ _ _ (by omega), bl_drop, show m + k - m = k by omega]
  congr 1
  · apply bl_val_inj; rw [Nat.add_mul_mod_self_right]
  · apply bl_val_inj
    rw [Nat.add_mul_div_right _ _ (Nat.pow_pos (by decide)), Nat.div_eq_of_lt hX, Nat.zero_add, Nat.mod_mod]
theorem bl_snoc (X m z : Nat) (hX : X < 2 ^ m) (hz : z < 2) : bl X m ++ [BitVec.ofNat 8 z] = bl (X + z * 2 ^ m) (m + 1) ∧ X + z * 2 ^ m < 2 ^ (m + 1) := by
  have h := bl_join X m z 1 hX
  rw [show z % 2 ^ 1 = z from Nat.mod_eq_of_lt hz] at h
  have e : bl z 1 = [BitVec.ofNat 8 z] := by simp [bl, Nat.mod_eq_of_lt hz]
  rw [e] at h
  exact h
theorem Ws.cells (h : Ws wb og V n w) : ∃ a c, w.cell? ⟨wb, 0, none⟩ = some (.slice a n c) ∧ w.frozen? ⟨wb, 0, none⟩ = false ∧ n ≤ c ∧ c < 9223372036854775808 ∧ Og og (.slice a n c) (bl V n) w := by
  obtain ⟨vb, h1, h2⟩ := h.row
  obtain ⟨a, c, e, h3, h4⟩ := h2.form
  rw [bl_length] at e h3
  subst e
  exact ⟨a, c, (row_cell h1 0 _ rfl).1, (row_cell h1 0 _ rfl).2, h3, h4, h2⟩
/-- More bits, from a slice of them. -/
theorem Ws.app (h : Ws wb og V n w) (hn : n ≤ 1000000000000) (w1 : World) (hN : Nw w w1) (x : Value) (v k : Nat) (hx : Sl (fun _ => False) x (bl v k) w1) (hk : k ≤ 1000000000000) (a : Option Addr) (c : Nat) (hc : w.cell? ⟨wb, 0, none⟩ = some (.slice a n c)) :
    ∃ a2 L2 c2 W og', Hid (∀ ty, (Builtin.append_ #[22, 22] ty #[.slice a n c, x]).run Try.prog w1 = .ok (.slice a2 L2 c2) W) ∧ W.cell? ⟨wb, 0, none⟩ = some (.slice a n c) ∧ W.frozen? ⟨wb, 0, none⟩ = false ∧ Ws wb og' (V + (v % 2 ^ k) * 2 ^ n) (n + k) (W.setCell ⟨wb, 0, none⟩ (.slice a2 L2 c2)) ∧ Fr (fun k => k = wb ∨ og = some k) w (W.setCell ⟨wb, 0, none⟩ (.slice a2 L2 c2)) ∧ Went og og' w := by
  obtain ⟨vb, h1, h2⟩ := h.row
  have e0 := (row_cell h1 0 _ rfl).1
  rw [hc] at e0
  injection e0 with e0
  subst e0
  obtain ⟨v', og', W, k1, k2, k3, k4⟩ := og_app w1 og _ _ (h2.nw hN) x _ hx (by rw [bl_length, bl_length]; omega)
  obtain ⟨a2, c2, e2, _, _⟩ := k2.form
  subst e2
  have hlt := h.lt
  have hne : og' ≠ some wb := k4.ne wb h.ne (Nat.lt_of_lt_of_le hlt hN.size)
  have hrow := row_kept (row_kept h1 hN (fun h => h)) k3 h.ne
  have f1 : Fr (fun k => k = wb) W (W.setCell ⟨wb, 0, none⟩ (.slice a2 (bl V n ++ bl v k).length c2)) := (Fr.refl _ _).setCell _ _ (.inl rfl)
  obtain ⟨j1, j2⟩ := bl_join V n v k h.vl
  refine ⟨a2, _, c2, W, og', k1, (row_cell hrow 0 _ rfl).1, (row_cell hrow 0 _ rfl).2, ⟨⟨_, row_set hrow 0 _, ?_⟩, hne, j2⟩, ?_, (Went.refl og w).trans k4 hN.size⟩
  · rw [← j1]; exact k2.kept f1 (fun g hg e => hne (by rw [hg, e]))
  · exact (hN.any.trans (k3.mono (fun i hi => .inl (.inr hi)))).trans (f1.mono (fun i hi => .inl (.inl hi)))
/-- One bit more. -/
theorem Ws.push (h : Ws wb og V n w) (hn : n ≤ 1000000000000) (z : Nat) (hz : z < 2) (y : Int) (hy : y = z) :
    ∃ a c a2 L2 c2 W og', w.cell? ⟨wb, 0, none⟩ = some (.slice a n c) ∧ n ≤ c ∧ c < 9223372036854775808 ∧ Hid (∀ ty, (Builtin.append_ #[22, 22] ty #[.slice a n c, .slice (some ⟨w.heap.size, 0, none⟩) 1 1]).run Try.prog (w.alloc (.cells #[.int .u8 y] 5)) = .ok (.slice a2 L2 c2) W) ∧ (∃ x, W.cell? ⟨wb, 0, none⟩ = some x) ∧ W.frozen? ⟨wb, 0, none⟩ = false ∧ Ws wb og' (V + z * 2 ^ n) (n + 1) (W.setCell ⟨wb, 0, none⟩ (.slice a2 L2 c2)) ∧ Fr (fun k => k = wb ∨ og = some k) w (W.setCell ⟨wb, 0, none⟩ (.slice a2 L2 c2)) ∧ Went og og' w := by
  obtain ⟨a, c, x0, x1, x2, x3, x4⟩ := h.cells
  have e : bl z 1 = [BitVec.ofNat 8 z] := by simp [bl, Nat.mod_eq_of_lt hz]
  have hsl := one_byte' w (BitVec.ofNat 8 z) y (by rw [hy, BitVec.toNat_ofNat, Nat.mod_eq_of_lt (by omega)])
  rw [← e] at hsl
  obtain ⟨a2, L2, c2, W, og', k1, k2, k3, k4, k5, k6⟩ := h.app hn _ ((Fr.refl _ _).alloc _) _ z 1 hsl (by decide) a c x0
  rw [show z % 2 ^ 1 = z from Nat.mod_eq_of_lt hz] at k4
  exact ⟨a, c, a2, L2, c2, W, og', x0, x2, x3, k1, ⟨_, k2⟩, k3, k4, k5, k6⟩
/-- How the document's Put stands in its loop. -/
def PsI (wb : Nat) (og : Option Nat) (Vf Nf : Nat) (w : World) (v j : Nat) (og' : Option Nat) (V n : Nat) (wr : World) : Prop :=
  Ws wb og' V n wr ∧ V + v * 2 ^ n = Vf ∧ n + j = Nf ∧ v < 2 ^ j ∧ Fr (fun k => k = wb ∨ og = some k) w wr ∧ Went og og' w
theorem PsI.round {Vf Nf v j : Nat} {og1 : Option Nat} {V1 n1 : Nat} {wr : World} (h : PsI wb og Vf Nf w v j og1 V1 n1 wr) (hj0 : 0 < j) (hn : Nf ≤ 1000000000000) (z q : Nat) (hz : z = v % 2) (hq : q = v / 2) :
    ∃ a c a2 L2 c2 W, wr.cell? ⟨wb, 0, none⟩ = some (.slice a n1 c) ∧ n1 ≤ c ∧ c < 9223372036854775808 ∧ Hid (∀ ty, (Builtin.append_ #[22, 22] ty #[.slice a n1 c, .slice (some ⟨wr.heap.size, 0, none⟩) 1 1]).run Try.prog (wr.alloc (.cells #[.int .u8 z] 5)) = .ok (.slice a2 L2 c2) W) ∧ (∃ x, W.cell? ⟨wb, 0, none⟩ = some x) ∧ W.frozen? ⟨wb, 0, none⟩ = false ∧ Hid (∃ og' V n, PsI wb og Vf Nf w q (j - 1) og' V n (W.setCell ⟨wb, 0, none⟩ (.slice a2 L2 c2))) := by
  obtain ⟨hR, h2, h3, h4, h5, h6⟩ := h
  obtain ⟨a, c, a2, L2, c2, W, og', k0, k1, k2, k3, k4, k5, k6, k7, k8⟩ := hR.push (by omega) z (by omega) z rfl
  refine ⟨a, c, a2, L2, c2, W, k0, k1, k2, k3, k4, k5, og', _, _, k6, ?_, by omega, ?_, ?_, h6.trans k8 h5.size⟩
  · rw [← h2, Nat.add_assoc]
    congr 1
    rw [Nat.pow_succ, Nat.mul_comm (2 ^ n1) 2, ← Nat.mul_assoc, ← Nat.add_mul]
    congr 1
    omega
  · have : 2 ^ j = 2 * 2 ^ (j - 1) := by rw [← Nat.pow_succ', show (j - 1).succ = j by omega]
    omega
  · refine Fr.then h5 k7 (fun i hi => ?_)
    rcases hi with rfl | hi
    · exact .inl (.inl rfl)
    · rcases h6 with rfl | ⟨g, rfl, hg⟩
      · exact .inl (.inr hi)
      · injection hi with hi; subst hi; exact .inr hg
set_option maxHeartbeats 8000000 in
theorem sput_no (v : Nat) (hv : v < 4294967296) (n : Int) (hp : puts v n = false) (wb : Nat) (w : World) : Calls Try.prog 24 #[.pointer (some ⟨wb, 0, none⟩), .int .u32 v, .int .i64 n] w fun e w' => e = .returned (.int .i64 1) ∧ w' = w := by
  obtain ⟨P, hP⟩ : ∃ P : Ending → World → Prop, P = fun e w' => e = .returned (.int .i64 1) ∧ w' = w := ⟨_, rfl⟩
  rw [← hP]
  have HF : Hid (P (.returned (.int .i64 1)) w) := by
    show P _ _
    rw [hP]; exact ⟨rfl, rfl⟩
  have hc := puts_no hp
  clear hP hp
  rcases hc with h1 | h1 | ⟨m, rfl, hm, hvm⟩
  · go_enter Try.func24, Try.ntmps24
    go_wp2
    exact HF.out
  · have h2 : ¬ n < 0 := by omega
    go_enter Try.func24, Try.ntmps24
    go_wp2
    exact HF.out
  · have hm2 : m < 32 := by
      rcases Nat.lt_or_ge m 32 with h | h
      · exact h
      · obtain rfl : m = 32 := by omega
        have : (2 : Nat) ^ 32 = 4294967296 := by decide
        omega
    obtain ⟨q, hq⟩ : ∃ q, q = 2 ^ m := ⟨_, rfl⟩
    have hqb : q ≤ 4294967296 := by rw [hq]; have : 2 ^ m ≤ 2 ^ 32 := Nat.pow_le_pow_right (by decide) hm; exact this
    have hqi : (2 : Int) ^ m = (q : Int) := by rw [hq]; push_cast; rfl
    have hqn : (q : Int) ≤ (v : Int) := by omega
    have hqw : IntKind.u64.wrap (q : Int) = (q : Int) := by rw [IntKind.wrap_u64]; omega
    have h2 : ¬ (32 : Int) < (m : Int) := by omega
    have h4 : (m : Int) < 32 := by omega
    have h3 : ¬ (m : Int) < 0 := by omega
    clear hq hvm
    go_enter Try.func24, Try.ntmps24
    go_wp2
    exact HF.out
set_option maxHeartbeats 8000000 in
set_option maxRecDepth 100000 in
theorem sput_yes (h : Ws wb og V n w) (hn : n ≤ 900000000000) (v : Nat) (hv : v < 4294967296) (m : Nat) (hm : m ≤ 32) (hvm : v < 2 ^ m) : Calls Try.prog 24 #[.pointer (some ⟨wb, 0, none⟩), .int .u32 v, .int .i64 m] w fun e w' => e = .returned (.int .i64 0) ∧ ∃ og', Ws wb og' (V + v * 2 ^ n) (n + m) w' ∧ Fr (fun k => k = wb ∨ og = some k) w w' ∧ Went og og' w := by
  obtain ⟨P, hP⟩ : ∃ P : Ending → World → Prop, P = fun e w' => e = .returned (.int .i64 0) ∧ ∃ og', Ws wb og' (V + v * 2 ^ n) (n + m) w' ∧ Fr (fun k => k = wb ∨ og = some k) w w' ∧ Went og og' w := ⟨_, rfl⟩
  rw [← hP]
  obtain ⟨Vf, hVf⟩ : ∃ Vf, Vf = V + v * 2 ^ n := ⟨_, rfl⟩
  obtain ⟨Nf, hNf⟩ : ∃ Nf, Nf = n + m := ⟨_, rfl⟩
  have HF : Hid (∀ W v' og' V' n', PsI wb og Vf Nf w v' 0 og' V' n' W → P (.returned (.int .i64 0)) W) := by
    rintro W v' og' V' n' ⟨k1, k2, k3, k4, k5, k6⟩
    rw [hP]
    refine ⟨rfl, og', ?_, k5, k6⟩
    obtain rfl : v' = 0 := by simpa using k4
    rw [← hVf, ← hNf, ← k2, ← k3, Nat.zero_mul, Nat.add_zero, Nat.add_zero]; exact k1
  have HI0 : Hid (PsI wb og Vf Nf w v m og V n w) := ⟨h, hVf.symm, hNf.symm, hvm, Fr.refl _ _, .inl rfl⟩
  have hNb : Nf ≤ 1000000000000 := by omega
  have h2 : ¬ (32 : Int) < (m : Int) := by omega
  have h3 : ¬ (m : Int) < 0 := by omega
  obtain ⟨q, hq⟩ : ∃ q, q = 2 ^ m := ⟨_, rfl⟩
  have hqb : q ≤ 4294967296 := by rw [hq]; have : 2 ^ m ≤ 2 ^ 32 := Nat.pow_le_pow_right (by decide) hm; exact this
  have hqi : (2 : Int) ^ m = (q : Int) := by rw [hq]; push_cast; rfl
  have hqn : ¬ (q : Int) ≤ (v : Int) := by omega
  have hqw : IntKind.u64.wrap (q : Int) = (q : Int) := by rw [IntKind.wrap_u64]; omega
  clear hP h hVf hNf hvm hn hq
  go_enter Try.func24, Try.ntmps24
  by_cases hm32 : (m : Int) < 32
  all_goals
    go_wp2
    go_loopg [1, 7] m (fun kx vv ii wr => ∃ (v I : Nat), I ≤ m ∧ m - I ≤ kx ∧ v < 4294967296 ∧ vv = .int .u32 v ∧ ii = .int .i64 I ∧ Hid (∃ og' V n, PsI wb og Vf Nf w v (m - I) og' V n wr))
    case atStart => exact ⟨v, 0, by omega, by omega, hv, rfl, rfl, ⟨og, V, n, HI0.out⟩⟩
    case round =>
      obtain ⟨v, I, hI, hkx, hv, rfl, rfl, HI⟩ := hrel
      clear HI0 hqi hqn hqw h2 h3
      obtain ⟨og1, V1, n1, hJ⟩ := HI.out
      by_cases hj0 : I = m
      · subst hj0
        rw [Nat.sub_self] at hJ
        have HF2 : Hid (P (.returned (.int .i64 0)) wr) := HF.out _ _ _ _ _ hJ
        have hz : ¬ (I : Int) < (I : Int) := by omega
        clear HI hJ HF
        go_wp2_with fail
        exact HF2.out
      · obtain ⟨z, hz⟩ : ∃ z, z = v % 2 := ⟨_, rfl⟩
        obtain ⟨q2, hq2⟩ : ∃ q, q = v / 2 := ⟨_, rfl⟩
        obtain ⟨a, c, a2, L2, c2, W, x0, hc1, hc2, HAP, ⟨x, x1⟩, x2, HN⟩ := hJ.round (by omega) hNb z q2 hz hq2
        have hzi : (v : Int) % 2 = (z : Int) := by omega
        have hqi : (v : Int) / 2 = (q2 : Int) := by omega
        have hq2b : q2 < 4294967296 := by omega
        have hz2 : z < 2 := by omega
        have hlt : (I : Int) < (m : Int) := by omega
        have hn1b : n1 ≤ 1000000000000 := by have := hJ.2.2.1; omega
        clear HI hJ HF hz hq2
        go_wp2_with (first
          | (at_builtin; refine Lib.wpList_append_run _ rfl _ _ 22 22 rfl (.slice a n1 c) (.slice (some ⟨_, 0, none⟩) 1 1) (by simp [Act.eval]) (by simp [Act.eval]) _ _ (HAP.out _) ?_))
        go_roundg (m - (I + 1))
        case measure => omega
        case rel => exact ⟨q2, I + 1, by omega, by omega, hq2b, rfl, by first | rfl | (congr 1), by rw [show m - (I + 1) = m - I - 1 by omega]; exact HN⟩
end Go.Proofs.Ytkpkiajehclbhaa

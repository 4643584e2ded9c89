import Derived.Test.YtdeefemeiggolaaQp
import Derived.Test.YtdeefemeiggolaaQf
import Derived.Test.YtdeefemeiggolaaQo
import Derived.Test.YtdeefemeiggolaaQq
import Derived.Test.YtdeefemeiggolaaQr
import Derived.Test.YtdeefemeiggolaaQv
import Derived.Lib.SlBytesConst
namespace Go.Proofs.Ytdeefemeiggolaa
open Go.RowKit
set_option linter.unusedVariables false
/-! ### What Encode makes -/
/-- Is the piece no longer than its block? Then it stands plain. -/
def plainer (piece bk : List By) : Bool := decide (piece.length ≤ bk.length)
def stood (piece bk : List By) : List By := if plainer piece bk = true then piece else bk
def stnum (piece bk : List By) : Nat := if plainer piece bk = true then piece.length + 2147483648 else bk.length
def blkOf (sums : Bool) (piece bk : List By) : List By := lows (stnum piece bk) 4 ++ stood piece bk ++ (if sums = true then lows (sm (stood piece bk)) 4 else [])
theorem or31 (n : Nat) (h : n < 2147483648) : bits .or .i64 (n : Int) 2147483648 = ((n + 2147483648 : Nat) : Int) := by
  have e : ((2147483648 : Int)) = ((1 <<< 31 : Nat) : Int) := by decide
  show IntKind.i64.wrap (((BitVec.ofInt 64 (n : Int) ||| BitVec.ofInt 64 (2147483648 : Int) : BitVec 64).toNat : Nat) : Int) = _
  rw [e, BitVec.toNat_or, BitVec.ofInt_natCast, BitVec.ofInt_natCast, BitVec.toNat_ofNat, BitVec.toNat_ofNat]
  rw [Nat.mod_eq_of_lt (show n < 2 ^ 64 by omega), Nat.mod_eq_of_lt (show 1 <<< 31 < 2 ^ 64 by decide), Nat.or_comm, ← Nat.shiftLeft_add_eq_or_of_lt (show n < 2 ^ 31 by omega), IntKind.wrap_i64]
  have : (1 <<< 31 : Nat) = 2147483648 := by decide
  rw [this]
  omega
set_option maxHeartbeats 8000000 in
set_option maxRecDepth 100000 in
theorem fputBlock_any (K : Nat → Prop) (w : World) (hK : ∀ k, K k → k < w.heap.size) (v : Value) (b : List By) (hb : Mine K v b w) (vp va : Value) (piece ahead : List By) (hp : Sl (fun k => ¬ K k) vp piece w) (ha : Sl (fun k => ¬ K k) va ahead w) (sums : Bool) (hpl : piece.length ≤ 4194304) (hal : ahead.length ≤ 4194304) (hbl : b.length ≤ 1000000000) :
    Calls Try.prog 40 #[v, vp, va, .bool sums] w fun e w' => ∃ v' bk, e = .returned v' ∧ EncOf piece ahead bk ∧ Mine K v' (b ++ blkOf sums piece bk) w' ∧ Fr (fun k => ¬ K k) w w' := by
  obtain ⟨P, hP⟩ : ∃ P : Ending → World → Prop, P = fun e w' => ∃ v' bk, e = .returned v' ∧ EncOf piece ahead bk ∧ Mine K v' (b ++ blkOf sums piece bk) w' ∧ Fr (fun k => ¬ K k) w w' := ⟨_, rfl⟩
  rw [← hP]
  have hold : ∀ {u : Value} {l : List By}, Sl (fun k => ¬ K k) u l w → Old w u l := fun h => h.mono (fun k hk => fun hx => by have := hK k hx; omega)
  -- behind lz.Encode
  have REST : Hid (∀ w1 a1 n1 k1 bk, EncOf piece ahead bk → n1 = bk.length → Mine (fun k => k < w.heap.size) (.slice a1 n1 k1) bk w1 → Nw w w1 → ∀ u, u = (if plainer piece bk = true then vp else .slice a1 n1 k1) → Hid (Calls Try.prog 27 #[v, .int .u64 (stnum piece bk), .int .i64 4] w1 fun e w2 => ∃ v2 g2 l2 k2, e = .returned v2 ∧ v2 = .slice g2 l2 k2 ∧ ∃ v3 W, (∃ g3 l3 k3, v3 = .slice g3 l3 k3) ∧ Hid (∀ ty, (Builtin.append_ #[22, 22] ty #[v2, u]).run Try.prog w2 = .ok v3 W) ∧ Hid (sums = false → Hid (P (.returned v3) W)) ∧ Hid (sums = true → Hid (Calls Try.prog 41 #[v3, u] W fun e w4 => ∃ v4, e = .returned v4 ∧ Hid (P (.returned v4) w4))))) := by
    intro w1 a1 n1 k1 bk hE hn1 hM hN u hu
    subst hn1
    show Calls _ _ _ _ _
    have hEb := hE.bound
    have hsl : stnum piece bk < 18446744073709551616 := by unfold stnum; split <;> omega
    refine (fput_any (fun k => K k ∨ (w.heap.size ≤ k ∧ k < w1.heap.size)) w1 (fun k hk => by rcases hk with hk | hk; exact Nat.lt_of_lt_of_le (hK k hk) hN.size; exact hk.2) v b ((hb.more (fun k hk => by rcases hk with hk | hk; exact .inl hk; exact .inr hk.1)).nw hN) (stnum piece bk) 4 hsl (by decide) (by omega)).mono ?_
    rintro e w2 ⟨v2, rfl, hM2, hF2⟩
    have hu2 : Sl (fun k => ¬ (K k ∨ (w.heap.size ≤ k ∧ k < w1.heap.size))) u (stood piece bk) w1 := by
      rw [hu]
      unfold stood
      split
      · exact (hp.nw hN).mono (fun k hk hx => hk (.inl hx))
      · rcases hM with ⟨h1, h2⟩ | ⟨g1, h1, h2⟩
        · injection h1 with h1 h3 h4
          refine .inl ⟨a1, ?_, h2⟩
          rw [h3, h4]
        · have := h2.lt
          exact .inr ⟨g1, fun hx => hx (.inr ⟨by omega, this⟩), h2.slb⟩
    have hu3 := hu2.kept hF2 (fun k hk => hk)
    have hsl2 : (stood piece bk).length ≤ 4300000 := by
      unfold stood
      split
      · omega
      · omega
    obtain ⟨v3, W, hap, hM3, hF3⟩ := mine_app _ w2 (fun k hk => by rcases hk with hk | hk; exact Nat.lt_of_lt_of_le (hK k hk) (Nat.le_trans hN.size hF2.size); exact Nat.lt_of_lt_of_le hk.2 hF2.size) v2 _ hM2 u (stood piece bk) (hu3.mono (fun _ h => h.elim)) (by rw [List.length_append, lows_length]; omega)
    obtain ⟨g2, k2, e2, _, _⟩ := hM2.sl.form
    obtain ⟨g3, k3, e3, _, _⟩ := hM3.sl.form
    have hFr : Fr (fun k => ¬ K k) w W := ((hN.any (X := fun k => ¬ K k)).trans (hF2.mono (fun k hk => .inl (fun hx => hk (.inl hx))))).trans (hF3.mono (fun k hk => .inl (fun hx => hk (.inl hx))))
    refine ⟨v2, g2, _, k2, rfl, e2, v3, W, ⟨g3, _, k3, e3⟩, hap, ?_, ?_⟩
    · intro hs
      show P _ _
      rw [hP]
      refine ⟨v3, bk, rfl, hE, ?_, hFr⟩
      unfold blkOf
      rw [if_neg (by rw [hs]; decide), List.append_nil, ← List.append_assoc]
      exact hM3.more (fun k hk => .inl (.inl hk))
    · intro hs
      show Calls _ _ _ _ _
      have hu4 := hu3.kept hF3 (fun k hk => hk)
      refine (fputSum_any (fun k => K k ∨ (w.heap.size ≤ k ∧ k < w1.heap.size)) W (fun k hk => by rcases hk with hk | hk; exact Nat.lt_of_lt_of_le (hK k hk) hFr.size; exact Nat.lt_of_lt_of_le hk.2 (Nat.le_trans hF2.size hF3.size)) v3 _ hM3 u (stood piece bk) (hu4.mono (fun k hk hx => by rcases hx with hx | hx; (have := Nat.lt_of_lt_of_le (hK k hx) hFr.size; omega); (have := Nat.lt_of_lt_of_le hx.2 (Nat.le_trans hF2.size hF3.size); omega))) (by rw [List.length_append, List.length_append, lows_length]; omega)).mono ?_
      rintro e w4 ⟨v4, rfl, hM4, hF4⟩
      refine ⟨v4, rfl, ?_⟩
      show P _ _
      rw [hP]
      refine ⟨v4, bk, rfl, hE, ?_, hFr.trans (hF4.mono (fun k hk => .inl (fun hx => hk (.inl hx))))⟩
      unfold blkOf
      rw [if_pos hs]
      have := hM4.more (K' := K) (fun k hk => .inl (.inl hk))
      simpa [List.append_assoc] using this
  have HE : Hid (Calls Try.prog 25 #[vp, va] w fun e w1 => ∃ a1 n1 k1 bk, e = .returned (.tuple #[.slice a1 n1 k1, .int .i64 0]) ∧ n1 ≤ 4300000 ∧ Hid (EncOf piece ahead bk ∧ n1 = bk.length ∧ Mine (fun k => k < w.heap.size) (.slice a1 n1 k1) bk w1 ∧ Nw w w1)) := by
    show Calls _ _ _ _ _
    refine (Encode_any w vp va piece ahead (hold hp) (hold ha) hpl (by omega)).mono ?_
    rintro e w1 ⟨a1, k1, bk, rfl, h1, h2, h3⟩
    have := h1.bound
    exact ⟨a1, _, k1, bk, rfl, by omega, h1, rfl, h2, h3⟩
  obtain ⟨pa, pc, rfl, hpc, _⟩ := hp.form
  obtain ⟨aa, ac, rfl, _, _⟩ := ha.form
  obtain ⟨ba, bc, rfl, _, _⟩ := hb.sl.form
  have hor := or31 piece.length (by omega)
  clear hp ha hb hold hP hK
  go_enter Try.func40, Try.ntmps40
  go_wp2_with (first | (go_at_call 25; with_reducible refine HE.out.mono ?_; rintro e w1 ⟨a1, n1, k1, bk, rfl, hn1, H1⟩))
  · rename_i hge
    have hpl' : plainer piece bk = true := decide_eq_true (by have := H1.out.2.1; omega)
    have R := REST.out w1 a1 n1 k1 bk H1.out.1 H1.out.2.1 H1.out.2.2.1 H1.out.2.2.2 (.slice pa piece.length pc) (by rw [if_pos hpl'])
    rw [show ((stnum piece bk : Nat) : Int) = (piece.length : Int) + 2147483648 by unfold stnum; rw [if_pos hpl']; omega] at R
    clear REST HE H1 hpl'
    cases sums with
    | false =>
      go_wp2_with (first | (go_at_call 27; with_reducible refine R.out.mono ?_; rintro e w2 ⟨v2, g2, l2, k2, rfl, rfl, v3, W, ⟨g3, l3, k3, rfl⟩, HAP, HS0, HS1⟩) | (at_builtin; refine Lib.wpList_append_run _ rfl _ _ 22 22 rfl (.slice g2 l2 k2) (.slice pa piece.length pc) (by simp [Act.eval]) (by simp [Act.eval]) _ _ (HAP.out _) ?_))
      exact (HS0.out trivial).out
    | true =>
      go_wp2_with (first | (go_at_call 27; with_reducible refine R.out.mono ?_; rintro e w2 ⟨v2, g2, l2, k2, rfl, rfl, v3, W, ⟨g3, l3, k3, rfl⟩, HAP, HS0, HS1⟩) | (at_builtin; refine Lib.wpList_append_run _ rfl _ _ 22 22 rfl (.slice g2 l2 k2) (.slice pa piece.length pc) (by simp [Act.eval]) (by simp [Act.eval]) _ _ (HAP.out _) ?_) | (go_at_call 41; with_reducible refine ((HS1.out trivial).out).mono ?_; rintro e w4 ⟨v4, rfl, HF⟩))
      exact HF.out
  · rename_i hge
    have hpl' : ¬ plainer piece bk = true := by
      unfold plainer
      rw [decide_eq_true_eq]
      have := H1.out.2.1
      omega
    have R := REST.out w1 a1 n1 k1 bk H1.out.1 H1.out.2.1 H1.out.2.2.1 H1.out.2.2.2 (.slice a1 n1 k1) (by rw [if_neg hpl'])
    rw [show ((stnum piece bk : Nat) : Int) = (n1 : Int) by unfold stnum; rw [if_neg hpl', H1.out.2.1]] at R
    clear REST HE H1 hpl'
    cases sums with
    | false =>
      go_wp2_with (first | (go_at_call 27; with_reducible refine R.out.mono ?_; rintro e w2 ⟨v2, g2, l2, k2, rfl, rfl, v3, W, ⟨g3, l3, k3, rfl⟩, HAP, HS0, HS1⟩) | (at_builtin; refine Lib.wpList_append_run _ rfl _ _ 22 22 rfl (.slice g2 l2 k2) (.slice a1 n1 k1) (by simp [Act.eval]) (by simp [Act.eval]) _ _ (HAP.out _) ?_))
      exact (HS0.out trivial).out
    | true =>
      go_wp2_with (first | (go_at_call 27; with_reducible refine R.out.mono ?_; rintro e w2 ⟨v2, g2, l2, k2, rfl, rfl, v3, W, ⟨g3, l3, k3, rfl⟩, HAP, HS0, HS1⟩) | (at_builtin; refine Lib.wpList_append_run _ rfl _ _ 22 22 rfl (.slice g2 l2 k2) (.slice a1 n1 k1) (by simp [Act.eval]) (by simp [Act.eval]) _ _ (HAP.out _) ?_) | (go_at_call 41; with_reducible refine ((HS1.out trivial).out).mono ?_; rintro e w4 ⟨v4, rfl, HF⟩))
      exact HF.out
end Go.Proofs.Ytdeefemeiggolaa

namespace Go.Proofs.Ytdeefemeiggolaa
open Go.RowKit
set_option linter.unusedVariables false
/-- FLG, the flags told so far. -/
def flI (s : Shp) (I : Nat) : Nat := 64 + (if 1 ≤ I ∧ s.alone = true then 32 else 0) + (if 2 ≤ I ∧ s.bsum = true then 16 else 0) + (if 3 ≤ I ∧ s.csize = true then 8 else 0) + (if 4 ≤ I ∧ s.csum = true then 4 else 0)
theorem flI_lt (s : Shp) (I : Nat) : flI s I < 128 := by unfold flI; split <;> split <;> split <;> split <;> omega
/-- A head without its sum. -/
def fhd (s : Shp) (n : Nat) : List By := [BitVec.ofNat 8 (flI s 4), BitVec.ofNat 8 (16 * s.block)] ++ (if s.csize = true then lows n 8 else [])
def fhead (s : Shp) (n : Nat) : List By := fhd s n ++ [hs (fhd s n)]
theorem flI_or (s : Shp) (k bit : Nat) (hk : (k = 0 ∧ bit = 32 ∧ s.alone = true) ∨ (k = 1 ∧ bit = 16 ∧ s.bsum = true) ∨ (k = 2 ∧ bit = 8 ∧ s.csize = true) ∨ (k = 3 ∧ bit = 4 ∧ s.csum = true)) : bits .or .u8 ((flI s k : Nat) : Int) ((bit : Nat) : Int) = ((flI s (k + 1) : Nat) : Int) := by
  have h1 := flI_lt s k
  rw [u8_or_nat _ _ (by omega) (by omega)]
  congr 1
  obtain ⟨bl, q1, q2, q3, q4⟩ := s
  clear h1
  rcases hk with ⟨rfl, rfl, h⟩ | ⟨rfl, rfl, h⟩ | ⟨rfl, rfl, h⟩ | ⟨rfl, rfl, h⟩
  all_goals (simp only at h; subst h; unfold flI; simp only)
  · cases q2 <;> cases q3 <;> cases q4 <;> simp
  · cases q1 <;> cases q3 <;> cases q4 <;> simp
  · cases q1 <;> cases q2 <;> cases q3 <;> simp
  · cases q1 <;> cases q2 <;> cases q4 <;> simp
theorem flI_no (s : Shp) (k : Nat) (hk : (k = 0 ∧ s.alone = false) ∨ (k = 1 ∧ s.bsum = false) ∨ (k = 2 ∧ s.csize = false) ∨ (k = 3 ∧ s.csum = false)) : flI s k = flI s (k + 1) := by
  obtain ⟨bl, q1, q2, q3, q4⟩ := s
  unfold flI
  rcases hk with ⟨rfl, h⟩ | ⟨rfl, h⟩ | ⟨rfl, h⟩ | ⟨rfl, h⟩
  all_goals (simp only at h; subst h; simp)
theorem own_two (w : World) (K : Nat → Prop) (x y : By) (hK : ∀ k, K k → k < w.heap.size) : Mine K (.slice (some ⟨w.heap.size, 0, none⟩) 2 2) [x, y] (w.alloc (.cells #[.int .u8 x.toNat, .int .u8 y.toNat] 5)) := by
  refine .inr ⟨w.heap.size, fun h => by have := hK _ h; omega, [x, y], rfl, rfl, by simp, by simp, ?_⟩
  show (w.heap.push _)[w.heap.size]? = _
  rw [Array.getElem?_push_size]; rfl
set_option maxHeartbeats 16000000 in
set_option maxRecDepth 100000 in
theorem fheadOf_any (w : World) (s : Shp) (hs1 : 4 ≤ s.block) (hs2 : s.block ≤ 7) (n : Nat) (hn : n ≤ 4194304) : Calls Try.prog 38 #[sv s, .int .i64 n] w fun e w' => ∃ v', e = .returned v' ∧ Mine (fun k => k < w.heap.size) v' (fhead s n) w' ∧ Nw w w' := by
  unfold sv
  obtain ⟨P, hP⟩ : ∃ P : Ending → World → Prop, P = fun e w' => ∃ v', e = .returned v' ∧ Mine (fun k => k < w.heap.size) v' (fhead s n) w' ∧ Nw w w' := ⟨_, rfl⟩
  rw [← hP]
  obtain ⟨sb, hsb⟩ : ∃ sb, w.heap.size = sb := ⟨_, rfl⟩
  obtain ⟨W1, hW1⟩ : ∃ W1, w.alloc (.cells #[.int .i64 s.block, .bool s.alone, .bool s.bsum, .bool s.csum, .bool s.csize] 24) = W1 := ⟨_, rfl⟩
  have hN1 : Nw w W1 := by rw [← hW1]; exact (Fr.refl _ _).alloc _
  have hrow : W1.heap[sb]? = some (.cells #[.int .i64 s.block, .bool s.alone, .bool s.bsum, .bool s.csum, .bool s.csize] 24) := by
    rw [← hW1, ← hsb]
    show (w.heap.push _)[w.heap.size]? = _
    rw [Array.getElem?_push_size]
  have HFO : Hid (Calls Try.prog 52 #[.pointer (some ⟨sb, 0, none⟩)] W1 fun e w' => ∃ lb, e = .returned (.slice (some ⟨lb, 0, none⟩) 4 4) ∧ Hid (w'.heap[lb]? = some (.cells (fcells sb 0).toArray 93) ∧ Nw W1 w')) := by
    show Calls _ _ _ _ _
    refine (fflagsOf_any sb 0 W1).mono ?_
    rintro e w4 ⟨rfl, h1, h2⟩
    exact ⟨_, rfl, h1, h2⟩
  -- behind the loop
  have END : Hid (∀ V, Nw W1 V → ∀ z1 z2 : Int, z1 = ((flI s 4 : Nat) : Int) → z2 = ((16 * s.block : Nat) : Int) → (s.csize = true → Hid (Calls Try.prog 27 #[.slice (some ⟨V.heap.size, 0, none⟩) 2 2, .int .u64 n, .int .i64 8] (V.alloc (.cells #[.int .u8 z1, .int .u8 z2] 5)) fun e w2 => ∃ a2 l2 k2, e = .returned (.slice a2 l2 k2) ∧ Hid (Calls Try.prog 53 #[.slice a2 l2 k2] w2 fun e w3 => ∃ z, e = .returned (.int .u8 z) ∧ ∃ v4 W, Hid (∀ ty, (Builtin.append_ #[22, 22] ty #[.slice a2 l2 k2, .slice (some ⟨w3.heap.size, 0, none⟩) 1 1]).run Try.prog (w3.alloc (.cells #[.int .u8 z] 5)) = .ok v4 W) ∧ Hid (P (.returned v4) W)))) ∧ (s.csize = false → Hid (Calls Try.prog 53 #[.slice (some ⟨V.heap.size, 0, none⟩) 2 2] (V.alloc (.cells #[.int .u8 z1, .int .u8 z2] 5)) fun e w3 => ∃ z, e = .returned (.int .u8 z) ∧ ∃ v4 W, Hid (∀ ty, (Builtin.append_ #[22, 22] ty #[.slice (some ⟨V.heap.size, 0, none⟩) 2 2, .slice (some ⟨w3.heap.size, 0, none⟩) 1 1]).run Try.prog (w3.alloc (.cells #[.int .u8 z] 5)) = .ok v4 W) ∧ Hid (P (.returned v4) W)))) := by
    intro V hV z1 z2 hz1 hz2
    have hlt := flI_lt s 4
    have e1 : z1 = ((BitVec.ofNat 8 (flI s 4)).toNat : Int) := by rw [hz1, BitVec.toNat_ofNat]; omega
    have e2 : z2 = ((BitVec.ofNat 8 (16 * s.block)).toNat : Int) := by rw [hz2, BitVec.toNat_ofNat]; omega
    subst e1; subst e2
    have hVw : Nw w V := hN1.trans hV
    have hKV : ∀ k, k < w.heap.size → k < V.heap.size := fun k hk => Nat.lt_of_lt_of_le hk hVw.size
    have hM := own_two V (fun k => k < w.heap.size) (BitVec.ofNat 8 (flI s 4)) (BitVec.ofNat 8 (16 * s.block)) hKV
    have hNV : Nw V (V.alloc (.cells #[.int .u8 ((BitVec.ofNat 8 (flI s 4)).toNat : Int), .int .u8 ((BitVec.ofNat 8 (16 * s.block)).toNat : Int)] 5)) := (Fr.refl _ _).alloc _
    generalize V.alloc (.cells #[.int .u8 ((BitVec.ofNat 8 (flI s 4)).toNat : Int), .int .u8 ((BitVec.ofNat 8 (16 * s.block)).toNat : Int)] 5) = V2 at *
    have hN2 : Nw w V2 := hVw.trans hNV
    -- the sum and the append
    have TAIL : ∀ V3 a2 l2 k2, Mine (fun k => k < w.heap.size) (.slice a2 l2 k2) (fhd s n) V3 → Fr (fun k => ¬ k < w.heap.size) w V3 → Calls Try.prog 53 #[.slice a2 l2 k2] V3 fun e w3 => ∃ z, e = .returned (.int .u8 z) ∧ ∃ v4 W, Hid (∀ ty, (Builtin.append_ #[22, 22] ty #[.slice a2 l2 k2, .slice (some ⟨w3.heap.size, 0, none⟩) 1 1]).run Try.prog (w3.alloc (.cells #[.int .u8 z] 5)) = .ok v4 W) ∧ Hid (P (.returned v4) W) := by
      intro V3 a2 l2 k2 h1 h2
      have hl : (fhd s n).length ≤ 10 := by
        unfold fhd
        split
        · simp [lows_length]
        · simp
      refine (fheadSum_any _ (fhd s n) V3 h1.old).mono ?_
      rintro e w3 ⟨rfl, h3⟩
      refine ⟨_, rfl, ?_⟩
      obtain ⟨a5, c5, v4, W, e5, hap, hR⟩ := mine_step (fun k => k < w.heap.size) (fhd s n) w3 (fun k hk => Nat.lt_of_lt_of_le hk (Nat.le_trans h2.size h3.size)) _ (h1.nw h3) (by omega) (hs (fhd s n)) _ rfl
      injection e5 with e5 e6 e7
      subst e5; subst e6; subst e7
      refine ⟨v4, W, hap, ?_⟩
      show P _ _
      rw [hP]
      refine ⟨v4, rfl, hR.out.1, ?_⟩
      exact ((h2.trans h3.any).trans hR.out.2).mono (fun k hk => .inr (by omega))
    constructor
    · intro hc
      show Calls _ _ _ _ _
      refine (fput_any (fun k => k < w.heap.size) V2 (fun k hk => Nat.lt_of_lt_of_le hk hN2.size) _ _ hM n 8 (by omega) (by decide) (by simp)).mono ?_
      rintro e w2 ⟨v2, rfl, hM2, hF2⟩
      obtain ⟨a2, k2, rfl, _, _⟩ := hM2.sl.form
      refine ⟨a2, _, k2, rfl, ?_⟩
      show Calls _ _ _ _ _
      have hfd : fhd s n = [BitVec.ofNat 8 (flI s 4), BitVec.ofNat 8 (16 * s.block)] ++ lows n 8 := by unfold fhd; rw [if_pos hc]
      refine TAIL w2 a2 _ k2 ?_ (hN2.any.trans hF2)
      rw [hfd]; exact hM2
    · intro hc
      show Calls _ _ _ _ _
      have hfd : fhd s n = [BitVec.ofNat 8 (flI s 4), BitVec.ofNat 8 (16 * s.block)] := by unfold fhd; rw [if_neg (by rw [hc]; decide), List.append_nil]
      refine TAIL V2 _ 2 2 ?_ hN2.any
      rw [hfd]; exact hM
  clear hP
  have hb16 : (s.block : Int) * 16 = ((16 * s.block : Nat) : Int) := by omega
  go_enter Try.func38, Try.ntmps38
  go_wp2_with (first | (go_at_call 52; with_reducible refine HFO.out.mono ?_; rintro e W5 ⟨lb, rfl, HL⟩))
  have SL : Hid (∀ V, Nw W5 V → ∀ j v, (#[.int .i64 s.block, .bool s.alone, .bool s.bsum, .bool s.csum, .bool s.csize] : Array Value)[j]? = some v → V.cell? ⟨sb, j, none⟩ = some v) := fun V hV j v hv => hV.cell (HL.out.2.cell (row_cell hrow j v hv).1)
  have CL : Hid (∀ V, Nw W5 V → ∀ j v, (fcells sb 0)[j]? = some v → V.cell? ⟨lb, j, none⟩ = some v) := fun V hV j v hv => hV.cell (row_cell HL.out.1 j v (by simpa using hv)).1
  have hN5 : Nw W1 W5 := HL.out.2
  have END5 : Hid (∀ V, Nw W5 V → _) := fun V hV => END.out V (hN5.trans hV)
  have ho : ((0 : Nat) : Nat) + 1 = 1 := rfl
  clear HL HFO END hrow hN1
  have END := END5
  clear END5 ho
  generalize (Value.agg #[.int .i64 s.block, .bool s.alone, .bool s.bsum, .bool s.csum, .bool s.csize]) = vs
  go_loopg [5, 11] 4 (fun kx f i wr => ∃ (I : Nat), I ≤ 4 ∧ 4 - I ≤ kx ∧ i = .int .i64 I ∧ f = .int .u8 ((flI s I : Nat) : Int) ∧ Nw W5 wr)
  case atStart => exact ⟨0, by omega, by omega, rfl, rfl, Fr.refl _ _⟩
  case round =>
    obtain ⟨I, hI, hkx, rfl, rfl, hN⟩ := hrel
    have hI' : I = 0 ∨ I = 1 ∨ I = 2 ∨ I = 3 ∨ I = 4 := by omega
    rcases hI' with rfl | rfl | rfl | rfl | rfl
    · have c0 := CL.out wr hN 0 _ rfl
      have c1 := CL.out wr hN 1 _ rfl
      have c2 : wr.cell? ⟨sb, 1, none⟩ = some (.bool s.alone) := SL.out wr hN 1 _ rfl
      have hA : Nw W5 (wr.alloc (.cells #[.int .u8 32, .pointer (some ⟨sb, 0 + 1, none⟩)] 93)) := hN.alloc _
      have c3 : (wr.alloc (.cells #[.int .u8 32, .pointer (some ⟨sb, 0 + 1, none⟩)] 93)).cell? ⟨sb, 1, none⟩ = some (.bool s.alone) := SL.out _ hA 1 _ rfl
      cases hb : s.alone with
      | true =>
        have hor : bits .or .u8 ((flI s 0 : Nat) : Int) 32 = ((flI s 1 : Nat) : Int) := flI_or s 0 32 (by simp [hb])
        rw [hb] at c2 c3
        clear CL SL END
        generalize flI s 0 = z0 at *
        go_wp2_with fail
        go_roundg 3
        all_goals (first | omega | exact ⟨1, by omega, by omega, rfl, by first | rfl | rw [hor], hA⟩)
      | false =>
        have hno : flI s 0 = flI s 1 := flI_no s 0 (by simp [hb])
        rw [hb] at c2 c3
        clear CL SL END
        rw [hno]
        go_wp2_with fail
        go_roundg 3
        all_goals (first | omega | exact ⟨1, by omega, by omega, rfl, rfl, hA⟩)
    · have c0 := CL.out wr hN 2 _ rfl
      have c1 := CL.out wr hN 3 _ rfl
      have c2 : wr.cell? ⟨sb, 2, none⟩ = some (.bool s.bsum) := SL.out wr hN 2 _ rfl
      have hA : Nw W5 (wr.alloc (.cells #[.int .u8 16, .pointer (some ⟨sb, 0 + 2, none⟩)] 93)) := hN.alloc _
      have c3 : (wr.alloc (.cells #[.int .u8 16, .pointer (some ⟨sb, 0 + 2, none⟩)] 93)).cell? ⟨sb, 2, none⟩ = some (.bool s.bsum) := SL.out _ hA 2 _ rfl
      cases hb : s.bsum with
      | true =>
        have hor : bits .or .u8 ((flI s 1 : Nat) : Int) 16 = ((flI s 2 : Nat) : Int) := flI_or s 1 16 (by simp [hb])
        rw [hb] at c2 c3
        clear CL SL END
        generalize flI s 1 = z0 at *
        go_wp2_with fail
        go_roundg 2
        all_goals (first | omega | exact ⟨2, by omega, by omega, rfl, by first | rfl | rw [hor], hA⟩)
      | false =>
        have hno : flI s 1 = flI s 2 := flI_no s 1 (by simp [hb])
        rw [hb] at c2 c3
        clear CL SL END
        rw [hno]
        go_wp2_with fail
        go_roundg 2
        all_goals (first | omega | exact ⟨2, by omega, by omega, rfl, rfl, hA⟩)
    · have c0 := CL.out wr hN 4 _ rfl
      have c1 := CL.out wr hN 5 _ rfl
      have c2 : wr.cell? ⟨sb, 4, none⟩ = some (.bool s.csize) := SL.out wr hN 4 _ rfl
      have hA : Nw W5 (wr.alloc (.cells #[.int .u8 8, .pointer (some ⟨sb, 0 + 4, none⟩)] 93)) := hN.alloc _
      have c3 : (wr.alloc (.cells #[.int .u8 8, .pointer (some ⟨sb, 0 + 4, none⟩)] 93)).cell? ⟨sb, 4, none⟩ = some (.bool s.csize) := SL.out _ hA 4 _ rfl
      cases hb : s.csize with
      | true =>
        have hor : bits .or .u8 ((flI s 2 : Nat) : Int) 8 = ((flI s 3 : Nat) : Int) := flI_or s 2 8 (by simp [hb])
        rw [hb] at c2 c3
        clear CL SL END
        generalize flI s 2 = z0 at *
        go_wp2_with fail
        go_roundg 1
        all_goals (first | omega | exact ⟨3, by omega, by omega, rfl, by first | rfl | rw [hor], hA⟩)
      | false =>
        have hno : flI s 2 = flI s 3 := flI_no s 2 (by simp [hb])
        rw [hb] at c2 c3
        clear CL SL END
        rw [hno]
        go_wp2_with fail
        go_roundg 1
        all_goals (first | omega | exact ⟨3, by omega, by omega, rfl, rfl, hA⟩)
    · have c0 := CL.out wr hN 6 _ rfl
      have c1 := CL.out wr hN 7 _ rfl
      have c2 : wr.cell? ⟨sb, 3, none⟩ = some (.bool s.csum) := SL.out wr hN 3 _ rfl
      have hA : Nw W5 (wr.alloc (.cells #[.int .u8 4, .pointer (some ⟨sb, 0 + 3, none⟩)] 93)) := hN.alloc _
      have c3 : (wr.alloc (.cells #[.int .u8 4, .pointer (some ⟨sb, 0 + 3, none⟩)] 93)).cell? ⟨sb, 3, none⟩ = some (.bool s.csum) := SL.out _ hA 3 _ rfl
      cases hb : s.csum with
      | true =>
        have hor : bits .or .u8 ((flI s 3 : Nat) : Int) 4 = ((flI s 4 : Nat) : Int) := flI_or s 3 4 (by simp [hb])
        rw [hb] at c2 c3
        clear CL SL END
        generalize flI s 3 = z0 at *
        go_wp2_with fail
        go_roundg 0
        all_goals (first | omega | exact ⟨4, by omega, by omega, rfl, by first | rfl | rw [hor], hA⟩)
      | false =>
        have hno : flI s 3 = flI s 4 := flI_no s 3 (by simp [hb])
        rw [hb] at c2 c3
        clear CL SL END
        rw [hno]
        go_wp2_with fail
        go_roundg 0
        all_goals (first | omega | exact ⟨4, by omega, by omega, rfl, rfl, hA⟩)
    · have c4 : wr.cell? ⟨sb, 4, none⟩ = some (.bool s.csize) := SL.out wr hN 4 _ rfl
      have c0 : wr.cell? ⟨sb, 0, none⟩ = some (.int .i64 s.block) := SL.out wr hN 0 _ rfl
      obtain ⟨B, hB⟩ : ∃ B, 16 * s.block = B := ⟨_, rfl⟩
      have hBl : B < 256 := by omega
      have hwB : IntKind.u8.wrap (B : Int) = (B : Int) := by rw [IntKind.wrap_u8]; omega
      have hflt := flI_lt s 4
      rw [hB] at hb16
      have c5 : (wr.alloc (.cells #[.int .u8 ((flI s 4 : Nat) : Int), .int .u8 (B : Int)] 5)).cell? ⟨sb, 4, none⟩ = some (.bool s.csize) := SL.out _ (hN.alloc _) 4 _ rfl
      cases hcz : s.csize with
      | true =>
        have E1 := (END.out wr hN ((flI s 4 : Nat) : Int) (B : Int) rfl (by rw [hB])).1 hcz
        rw [hcz] at c4 c5
        clear END CL SL hB
        generalize flI s 4 = z0 at *
        go_wp2_with (first | (go_at_call 27; with_reducible refine E1.out.mono ?_; rintro e w2 ⟨a2, l2, k2, rfl, E2⟩) | (go_at_call 53; with_reducible refine E2.out.mono ?_; rintro e w3 ⟨z, rfl, v4, W, HAP, HF⟩) | (at_builtin; refine Lib.wpList_append_run _ rfl _ _ 22 22 rfl (.slice a2 l2 k2) (.slice (some ⟨w3.heap.size, 0, none⟩) 1 1) (by simp [Act.eval]) (by simp [Act.eval]) _ _ (HAP.out _) ?_))
        exact HF.out
      | false =>
        have E1 := (END.out wr hN ((flI s 4 : Nat) : Int) (B : Int) rfl (by rw [hB])).2 hcz
        rw [hcz] at c4 c5
        clear END CL SL hB
        generalize flI s 4 = z0 at *
        go_wp2_with (first | (go_at_call 53; with_reducible refine E1.out.mono ?_; rintro e w3 ⟨z, rfl, v4, W, HAP, HF⟩) | (at_builtin; refine Lib.wpList_append_run _ rfl _ _ 22 22 rfl (.slice (some ⟨wr.heap.size, 0, none⟩) 2 2) (.slice (some ⟨w3.heap.size, 0, none⟩) 1 1) (by simp [Act.eval]) (by simp [Act.eval]) _ _ (HAP.out _) ?_))
        exact HF.out
end Go.Proofs.Ytdeefemeiggolaa

namespace Go.Proofs.Ytdeefemeiggolaa
open Go.RowKit
set_option linter.unusedVariables false
/-- The blocks of plain bytes from a place on. -/
inductive EncB (s : Shp) (plain : List By) : Nat → List By → Prop where
  | fin (p : Nat) (h : plain.length ≤ p) : EncB s plain p []
  | step (p : Nat) (bk rest : List By) (h : p < plain.length) (hE : EncOf (tk plain p (siz s)) (if s.alone = true then [] else plain.take p) bk) (hr : EncB s plain (p + siz s) rest) : EncB s plain p (blkOf s.bsum (tk plain p (siz s)) bk ++ rest)
def frameB (s : Shp) (plain bl : List By) : List By := lows 407708164 4 ++ fhead s plain.length ++ bl ++ lows 0 4 ++ (if s.csum = true then lows (sm plain) 4 else [])
theorem blkOf_length (sums : Bool) (piece bk : List By) : (blkOf sums piece bk).length ≤ piece.length + 8 := by
  unfold blkOf stood
  by_cases h : plainer piece bk = true
  · rw [if_pos h]
    split <;> simp [lows_length] <;> omega
  · rw [if_neg h]
    have : bk.length ≤ piece.length := by
      unfold plainer at h
      rw [decide_eq_true_eq] at h
      omega
    split <;> simp [lows_length] <;> omega
theorem siz_pos (s : Shp) : 256 ≤ siz s := by
  unfold siz
  exact Nat.le_trans (by decide) (Nat.pow_le_pow_right (n := 2) (by decide) (Nat.le_add_right 8 (2 * s.block)))
/-- How encode's loop stands. -/
def EIx (K : Nat → Prop) (s : Shp) (plain : List By) (w : World) (p : Nat) (v : Value) (V : World) : Prop :=
  ∃ bl, (∀ rest, EncB s plain p rest → EncB s plain 0 (bl ++ rest)) ∧ bl.length ≤ 9 * p ∧ Mine K v (lows 407708164 4 ++ fhead s plain.length ++ bl) V ∧ Fr (fun k => ¬ K k) w V
theorem EIx.nw {K : Nat → Prop} {s : Shp} {plain : List By} {w : World} {p : Nat} {v : Value} {V V' : World} (h : EIx K s plain w p v V) (f : Nw V V') : EIx K s plain w p v V' := by
  obtain ⟨bl, h1, h2, h3, h4⟩ := h
  exact ⟨bl, h1, h2, h3.nw f, h4.trans f.any⟩
set_option maxHeartbeats 16000000 in
set_option maxRecDepth 100000 in
theorem fencode_any (w : World) (vp : Value) (plain : List By) (hp : Old w vp plain) (s : Shp) (hs1 : 4 ≤ s.block) (hs2 : s.block ≤ 7) (hpl : plain.length ≤ 4194304) :
    Calls Try.prog 22 #[vp, sv s] w fun e w' => ∃ v' bl, e = .returned v' ∧ EncB s plain 0 bl ∧ Mine (fun k => k < w.heap.size) v' (frameB s plain bl) w' ∧ Nw w w' := by
  obtain ⟨P, hP⟩ : ∃ P : Ending → World → Prop, P = fun e w' => ∃ v' bl, e = .returned v' ∧ EncB s plain 0 bl ∧ Mine (fun k => k < w.heap.size) v' (frameB s plain bl) w' ∧ Nw w w' := ⟨_, rfl⟩
  rw [← hP]
  have hp_ := hp
  have HP : Hid (P = fun e w' => ∃ v' bl, e = .returned v' ∧ EncB s plain 0 bl ∧ Mine (fun k => k < w.heap.size) v' (frameB s plain bl) w' ∧ Nw w w') := hP
  clear hP
  unfold sv
  obtain ⟨D, hD⟩ : ∃ D, w.heap.size = D := ⟨_, rfl⟩
  obtain ⟨W1, hW1⟩ : ∃ W1, w.alloc (.cells #[.int .i64 s.block, .bool s.alone, .bool s.bsum, .bool s.csum, .bool s.csize] 24) = W1 := ⟨_, rfl⟩
  have hN1 : Nw w W1 := by rw [← hW1]; exact (Fr.refl _ _).alloc _
  have hrow : W1.heap[D]? = some (.cells #[.int .i64 s.block, .bool s.alone, .bool s.bsum, .bool s.csum, .bool s.csize] 24) := by
    rw [← hW1, ← hD]
    show (w.heap.push _)[w.heap.size]? = _
    rw [Array.getElem?_push_size]
  -- the shape's row stays: its block joins K
  have hlD : D < W1.heap.size := by rw [← hW1, ← hD]; simp
  obtain ⟨K, hK⟩ : ∃ K : Nat → Prop, K = fun k => k < D + 1 := ⟨_, rfl⟩
  have hKD : ∀ V, Fr (fun k => ¬ K k) W1 V → ∀ j v, (#[.int .i64 s.block, .bool s.alone, .bool s.bsum, .bool s.csum, .bool s.csize] : Array Value)[j]? = some v → V.cell? ⟨D, j, none⟩ = some v := fun V hV j v hv => hV.cellv (row_cell hrow j v hv).1 (fun h => h (by rw [hK]; show D < D + 1; omega))
  have hKlt : ∀ V, Fr (fun k => ¬ K k) W1 V → ∀ k, K k → k < V.heap.size := fun V hV k hk => by
    rw [hK] at hk
    have := hV.size
    have hk' : k < D + 1 := hk
    omega
  have hfhl : (fhead s plain.length).length ≤ 11 := by
    unfold fhead fhd
    split <;> simp [lows_length]
  have hsz : siz s ≤ 4194304 := Nat.le_trans (Nat.pow_le_pow_right (by decide) (show 8 + 2 * s.block ≤ 22 by omega)) (by decide)
  have hsp := siz_pos s
  have H1 : Hid (Calls Try.prog 27 #[.slice none 0 0, .int .u64 407708164, .int .i64 4] W1 fun e w2 => ∃ a l k, e = .returned (.slice a l k) ∧ w2.cell? ⟨D, 0, none⟩ = some (.int .i64 s.block) ∧ w2.cell? ⟨D, 1, none⟩ = some (.bool s.alone) ∧ w2.cell? ⟨D, 2, none⟩ = some (.bool s.bsum) ∧ w2.cell? ⟨D, 3, none⟩ = some (.bool s.csum) ∧ w2.cell? ⟨D, 4, none⟩ = some (.bool s.csize) ∧ Hid (Calls Try.prog 38 #[.agg #[.int .i64 s.block, .bool s.alone, .bool s.bsum, .bool s.csum, .bool s.csize], .int .i64 plain.length] w2 fun e w3 => ∃ a3 l3 k3, e = .returned (.slice a3 l3 k3) ∧ ∃ v5 W, (∃ a5 l5 k5, v5 = .slice a5 l5 k5) ∧ Hid (∀ ty, (Builtin.append_ #[22, 22] ty #[.slice a l k, .slice a3 l3 k3]).run Try.prog w3 = .ok v5 W) ∧ W.cell? ⟨D, 0, none⟩ = some (.int .i64 s.block) ∧ Hid (EIx K s plain W1 0 v5 W))) := by
    show Calls _ _ _ _ _
    refine (fput_any K W1 (hKlt W1 (Fr.refl _ _)) _ [] (Mine.nil _ _) 407708164 4 (by decide) (by decide) (by simp)).mono ?_
    rintro e w2 ⟨v2, rfl, hM2, hF2⟩
    obtain ⟨a, k, rfl, _, _⟩ := hM2.sl.form
    refine ⟨a, _, k, rfl, hKD w2 hF2 0 _ rfl, hKD w2 hF2 1 _ rfl, hKD w2 hF2 2 _ rfl, hKD w2 hF2 3 _ rfl, hKD w2 hF2 4 _ rfl, ?_⟩
    show Calls _ _ _ _ _
    refine (fheadOf_any w2 s hs1 hs2 plain.length hpl).mono ?_
    rintro e w3 ⟨v3, rfl, hM3, hN3⟩
    obtain ⟨a3, k3, rfl, _, _⟩ := hM3.sl.form
    have hF3 := hF2.trans hN3.any
    obtain ⟨v5, W, hap, hM5, hF5⟩ := mine_app K w3 (hKlt w3 hF3) _ _ (hM2.nw hN3) _ (fhead s plain.length) (hM3.old.mono (fun _ h => h.elim)) (by simp [lows_length]; omega)
    obtain ⟨a5, k5, e5, _, _⟩ := hM5.sl.form
    have hF6 := hF3.trans hF5
    refine ⟨a3, _, k3, rfl, v5, W, ⟨a5, _, k5, e5⟩, hap, hKD W hF6 0 _ rfl, [], fun rest h => by rw [List.nil_append]; exact h, by simp, ?_, hF6⟩
    rw [List.append_nil]
    rw [List.nil_append] at hM5
    exact hM5
  have HL : Hid (∀ V, Calls Try.prog 39 #[.int .i64 s.block] V fun e w' => e = .returned (.int .i64 (siz s)) ∧ w' = V) := fun V => flongest_any s.block hs1 hs2 V
  have PB : Hid (∀ p v V vpc vah, EIx K s plain W1 p v V → p < plain.length → Sl (fun k => ¬ K k) vpc (tk plain p (siz s)) V → Sl (fun k => ¬ K k) vah (if s.alone = true then [] else plain.take p) V → Hid (Calls Try.prog 40 #[v, vpc, vah, .bool s.bsum] V fun e w2 => ∃ a l k, e = .returned (.slice a l k) ∧ w2.cell? ⟨D, 1, none⟩ = some (.bool s.alone) ∧ w2.cell? ⟨D, 2, none⟩ = some (.bool s.bsum) ∧ w2.cell? ⟨D, 3, none⟩ = some (.bool s.csum) ∧ Hid (EIx K s plain W1 (p + siz s) (.slice a l k) w2))) := by
    rintro p v V vpc vah ⟨bl, h1, h2, h3, h4⟩ hp hpc hah
    show Calls _ _ _ _ _
    refine (fputBlock_any K V (hKlt V h4) v _ h3 vpc vah _ _ hpc hah s.bsum (by unfold tk; rw [List.length_take]; omega) (by split; simp; (rw [List.length_take]; omega)) (by simp only [List.length_append, lows_length]; omega)).mono ?_
    rintro e w2 ⟨v', bk, rfl, hE, hM, hF⟩
    obtain ⟨a, k, rfl, _, _⟩ := hM.sl.form
    have hF' := h4.trans hF
    have hbl := blkOf_length s.bsum (tk plain p (siz s)) bk
    have htl : (tk plain p (siz s)).length ≤ siz s := by unfold tk; rw [List.length_take]; omega
    refine ⟨a, _, k, rfl, hKD w2 hF' 1 _ rfl, hKD w2 hF' 2 _ rfl, hKD w2 hF' 3 _ rfl, bl ++ blkOf s.bsum (tk plain p (siz s)) bk, fun rest hr => ?_, ?_, ?_, hF'⟩
    · rw [List.append_assoc]
      exact h1 _ (EncB.step p bk rest hp hE hr)
    · rw [List.length_append]; omega
    · rw [← List.append_assoc]; exact hM
  have EN : Hid (∀ p v V, EIx K s plain W1 p v V → plain.length ≤ p → p ≤ 8388608 → Hid (Calls Try.prog 27 #[v, .int .u64 0, .int .i64 4] V fun e w2 => ∃ a l k, e = .returned (.slice a l k) ∧ w2.cell? ⟨D, 3, none⟩ = some (.bool s.csum) ∧ Hid (s.csum = false → P (.returned (.slice a l k)) w2) ∧ Hid (s.csum = true → Hid (Calls Try.prog 41 #[.slice a l k, vp] w2 fun e w3 => ∃ v', e = .returned v' ∧ Hid (P (.returned v') w3))))) := by
    rintro p v V ⟨bl, h1, h2, h3, h4⟩ hp hp2
    show Calls _ _ _ _ _
    have hE0 : EncB s plain 0 bl := by
      have := h1 [] (EncB.fin p hp)
      rw [List.append_nil] at this; exact this
    refine (fput_any K V (hKlt V h4) v _ h3 0 4 (by decide) (by decide) (by simp only [List.length_append, lows_length]; omega)).mono ?_
    rintro e w2 ⟨v', rfl, hM, hF⟩
    obtain ⟨a, k, rfl, _, _⟩ := hM.sl.form
    have hF' := h4.trans hF
    have hNw : ∀ V2, Fr (fun k => ¬ K k) W1 V2 → Nw w V2 := fun V2 hV2 => hN1.then hV2 (fun k hk => .inr (by rw [hK] at hk; have hk' : ¬ k < D + 1 := hk; omega))
    have hle : ∀ k, k < w.heap.size → K k ∨ False := fun k hk => .inl (by rw [hK]; show k < D + 1; omega)
    refine ⟨a, _, k, rfl, hKD w2 hF' 3 _ rfl, fun hc => ?_, fun hc => ?_⟩
    · rw [HP.out]
      refine ⟨_, bl, rfl, hE0, ?_, hNw w2 hF'⟩
      unfold frameB
      rw [if_neg (by rw [hc]; decide), List.append_nil]
      exact hM.more (fun k hk => .inl (by rw [hK]; show k < D + 1; omega))
    · show Calls _ _ _ _ _
      refine (fputSum_any K w2 (hKlt w2 hF') _ _ hM vp plain (((hp_.nw hN1).kept hF' (fun k hk => ?_)).mono (fun k hk => ?_)) (by simp only [List.length_append, lows_length]; omega)).mono ?_
      · rw [hK] at hk
        have hk' : ¬ k < D + 1 := hk
        omega
      · have := hF'.size
        have := hN1.size
        omega
      rintro e w3 ⟨v3, rfl, hM3, hF3⟩
      refine ⟨v3, rfl, ?_⟩
      show P _ _
      rw [HP.out]
      refine ⟨v3, bl, rfl, hE0, ?_, hNw w3 (hF'.trans hF3)⟩
      unfold frameB
      rw [if_pos hc]
      exact hM3.more (fun k hk => .inl (by rw [hK]; show k < D + 1; omega))
  obtain ⟨a, c, rfl, hc, hc2, hbo⟩ := hp.open
  have SLI : Hid (∀ p V v, EIx K s plain W1 p v V → p < plain.length → ∃ g o, a = some ⟨g, o, none⟩ ∧ V.cell? ⟨D, 1, none⟩ = some (.bool s.alone) ∧ V.cell? ⟨D, 2, none⟩ = some (.bool s.bsum) ∧ ∀ M, M = min (p + siz s) plain.length → Sl (fun k => ¬ K k) (.slice (some ⟨g, o + p, none⟩) (M - p) (c - p)) (tk plain p (siz s)) V ∧ Sl (fun k => ¬ K k) (.slice (some ⟨g, o, none⟩) p c) (plain.take p) V) := by
    rintro p V v ⟨bl, h1, h2, h3, h4⟩ hp'
    obtain ⟨g, o, e, hg, hrd⟩ := hbo (by intro e; rw [e] at hp'; simp at hp')
    have hKg : K g := by rw [hK]; show g < D + 1; omega
    have hrd' : Rd g o plain V := (hrd.nw hN1).kept h4 (fun hx => hx hKg)
    refine ⟨g, o, e, hKD V h4 1 _ rfl, hKD V h4 2 _ rfl, fun M hM => ?_⟩
    have hl1 : (tk plain p (siz s)).length = M - p := by unfold tk; rw [List.length_take, List.length_drop]; omega
    have hl2 : (plain.take p).length = p := by rw [List.length_take]; omega
    refine ⟨.inr ⟨g, fun hx => hx hKg, o + p, c - p, by rw [hl1], by omega, by omega, (hrd'.drop p).take (siz s)⟩, .inr ⟨g, fun hx => hx hKg, o, c, by rw [hl2], by omega, by omega, hrd'.take p⟩⟩
  clear HP hp hbo hp_ hKD hKlt hrow hN1 hlD hK
  obtain ⟨L, hL⟩ : ∃ L, plain.length = L := ⟨_, rfl⟩
  have HLn : Hid (plain.length = L) := hL
  rw [hL] at hpl hc
  rw [hL] at H1
  clear hL
  obtain ⟨Z, hZ⟩ : ∃ Z, siz s = Z := ⟨_, rfl⟩
  rw [hZ] at hsz hsp HL
  have HZ : Hid (siz s = Z) := hZ
  clear hZ
  go_enter Try.func22, Try.ntmps22
  rw [HLn.out]
  go_wp2_with (first | (go_at_call 27; with_reducible refine H1.out.mono ?_; rintro e w2 ⟨a2, l2, k2, rfl, b0, b1, b2, b3, b4, H2⟩) | (go_at_call 38; with_reducible refine H2.out.mono ?_; rintro e w3 ⟨a3, l3, k3, rfl, v5, W, ⟨a5, l5, k5, rfl⟩, HAP, b5, HI⟩) | (at_builtin; refine Lib.wpList_append_run _ rfl _ _ 22 22 rfl (.slice a2 l2 k2) (.slice a3 l3 k3) (by simp [Act.eval]) (by simp [Act.eval]) _ _ (HAP.out _) ?_) | (go_at_call 39; with_reducible refine (HL.out _).mono ?_; rintro e w4 ⟨rfl, rfl⟩))
  generalize (Value.agg #[.int .i64 s.block, .bool s.alone, .bool s.bsum, .bool s.csum, .bool s.csize]) = vs
  go_loopg [5, 7] L (fun kx vb i wr => ∃ (p : Nat), p ≤ 8388608 ∧ L - p ≤ kx ∧ i = .int .i64 p ∧ (∃ a l k, vb = .slice a l k) ∧ p ≤ L + Z ∧ Hid (EIx K s plain W1 p vb wr))
  case atStart => exact ⟨0, by omega, by omega, rfl, ⟨_, _, _, rfl⟩, by omega, HI⟩
  case round =>
    obtain ⟨p, hp8, hkx, rfl, ⟨ab, lb, kb, rfl⟩, hpz, HB⟩ := hrel
    clear HI H1 H2 HAP
    by_cases hlt : p < L
    · obtain ⟨g, o, rfl, c1, c2, hsl⟩ := SLI.out p wr _ HB.out (by rw [HLn.out]; exact hlt)
      obtain ⟨M, hM⟩ : ∃ M, M = min (p + Z) L := ⟨_, rfl⟩
      obtain ⟨s1, s2⟩ := hsl M (by rw [HLn.out, HZ.out]; exact hM)
      have hz1 : (p : Int) < (L : Int) := by omega
      have hMp : p ≤ M := by omega
      have hMl : M ≤ L := by omega
      have hmin : min ((p : Int) + (Z : Int)) (L : Int) = (M : Int) := by omega
      have hcp : ¬ c = p := by omega
      have hz2 : (p : Int) ≤ (M : Int) := by omega
      have hz3 : (M : Int) ≤ (c : Int) := by omega
      have hz4 : (p : Int) ≤ (c : Int) := by omega
      have PB' : Hid (∀ V vah, Nw wr V → Sl (fun k => ¬ K k) vah (if s.alone = true then [] else plain.take p) wr → Hid (Calls Try.prog 40 #[.slice ab lb kb, .slice (some ⟨g, o + p, none⟩) (M - p) (c - p), vah, .bool s.bsum] V fun e w2 => ∃ a l k, e = .returned (.slice a l k) ∧ w2.cell? ⟨D, 1, none⟩ = some (.bool s.alone) ∧ w2.cell? ⟨D, 2, none⟩ = some (.bool s.bsum) ∧ w2.cell? ⟨D, 3, none⟩ = some (.bool s.csum) ∧ Hid (EIx K s plain W1 (p + Z) (.slice a l k) w2))) := fun V vah hN hv => by
        have := PB.out p _ V _ vah (HB.out.nw hN) (by rw [HLn.out]; exact hlt) (s1.nw hN) (hv.nw hN)
        rw [HZ.out] at this
        exact this
      have hMZ : p + Z ≤ 8388608 := by omega
      clear PB EN SLI hsl s1 HB hM
      go_wp2_with fail
      go_region
      cases hal : s.alone with
      | true =>
        have PB2 := PB'.out wr.drew (.slice none 0 0) (Fr.refl _ _).drew (by rw [if_pos hal]; exact .inl ⟨none, rfl, rfl⟩)
        rw [hal] at c1
        clear PB'
        go_wp2_with (first | (go_at_call 40; with_reducible refine PB2.out.mono ?_; rintro e w5 ⟨a6, l6, k6, rfl, d1, d2, d3, H6⟩))
        go_roundg (L - (p + Z))
        all_goals (first | omega | exact ⟨p + Z, hMZ, by omega, rfl, ⟨_, _, _, rfl⟩, by omega, H6⟩)
      | false =>
        have PB2 := PB'.out wr.drew (.slice (some ⟨g, o, none⟩) p c) (Fr.refl _ _).drew (by rw [if_neg (by rw [hal]; decide)]; exact s2)
        rw [hal] at c1
        clear PB'
        go_wp2_with (first | (go_at_call 40; with_reducible refine PB2.out.mono ?_; rintro e w5 ⟨a6, l6, k6, rfl, d1, d2, d3, H6⟩))
        go_roundg (L - (p + Z))
        all_goals (first | omega | exact ⟨p + Z, hMZ, by omega, rfl, ⟨_, _, _, rfl⟩, by omega, H6⟩)
    · have E1 := EN.out p _ wr HB.out (by rw [HLn.out]; omega) hp8
      have hz1 : ¬ (p : Int) < (L : Int) := by omega
      rw [HLn.out] at E1
      clear PB EN SLI HB
      cases hcs : s.csum with
      | true =>
        rw [hcs] at E1
        go_wp2_with (first | (go_at_call 27; with_reducible refine E1.out.mono ?_; rintro e w5 ⟨a6, l6, k6, rfl, d3, HS0, HS1⟩) | (go_at_call 41; with_reducible refine ((HS1.out trivial).out).mono ?_; rintro e w6 ⟨v7, rfl, HF⟩))
        exact HF.out
      | false =>
        rw [hcs] at E1
        go_wp2_with (first | (go_at_call 27; with_reducible refine E1.out.mono ?_; rintro e w5 ⟨a6, l6, k6, rfl, d3, HS0, HS1⟩))
        exact HS0.out trivial
end Go.Proofs.Ytdeefemeiggolaa

namespace Go.Proofs.Ytdeefemeiggolaa
open Go.RowKit
set_option linter.unusedVariables false
set_option maxHeartbeats 8000000 in
theorem fEncode_ok (w : World) (vp : Value) (plain : List By) (hp : Old w vp plain) (s : Shp) (hs1 : 4 ≤ s.block) (hs2 : s.block ≤ 7) (hpl : plain.length ≤ 4194304) :
    Calls Try.prog 10 #[vp, .agg #[.int .i64 s.block, .bool s.alone, .bool s.bsum, .bool s.csum, .bool s.csize]] w fun e w' => ∃ a k bl, e = .returned (.tuple #[.slice a (frameB s plain bl).length k, .int .i64 0]) ∧ EncB s plain 0 bl ∧ Mine (fun k => k < w.heap.size) (.slice a (frameB s plain bl).length k) (frameB s plain bl) w' ∧ Nw w w' := by
  obtain ⟨P, hP⟩ : ∃ P : Ending → World → Prop, P = fun e w' => ∃ a k bl, e = .returned (.tuple #[.slice a (frameB s plain bl).length k, .int .i64 0]) ∧ EncB s plain 0 bl ∧ Mine (fun k => k < w.heap.size) (.slice a (frameB s plain bl).length k) (frameB s plain bl) w' ∧ Nw w w' := ⟨_, rfl⟩
  rw [← hP]
  obtain ⟨D, hD⟩ : ∃ D, w.heap.size = D := ⟨_, rfl⟩
  obtain ⟨W1, hW1⟩ : ∃ W1, w.alloc (.cells #[.int .i64 s.block, .bool s.alone, .bool s.bsum, .bool s.csum, .bool s.csize] 24) = W1 := ⟨_, rfl⟩
  have hN1 : Nw w W1 := by rw [← hW1]; exact (Fr.refl _ _).alloc _
  have hrow : W1.heap[D]? = some (.cells #[.int .i64 s.block, .bool s.alone, .bool s.bsum, .bool s.csum, .bool s.csize] 24) := by
    rw [← hW1, ← hD]
    show (w.heap.push _)[w.heap.size]? = _
    rw [Array.getElem?_push_size]
  have c0 : W1.cell? ⟨D, 0, none⟩ = some (.int .i64 s.block) := (row_cell hrow 0 _ rfl).1
  have c1 : W1.cell? ⟨D, 1, none⟩ = some (.bool s.alone) := (row_cell hrow 1 _ rfl).1
  have c2 : W1.cell? ⟨D, 2, none⟩ = some (.bool s.bsum) := (row_cell hrow 2 _ rfl).1
  have c3 : W1.cell? ⟨D, 3, none⟩ = some (.bool s.csum) := (row_cell hrow 3 _ rfl).1
  have c4 : W1.cell? ⟨D, 4, none⟩ = some (.bool s.csize) := (row_cell hrow 4 _ rfl).1
  have HC : Hid (Calls Try.prog 22 #[vp, .agg #[.int .i64 s.block, .bool s.alone, .bool s.bsum, .bool s.csum, .bool s.csize]] W1 fun e w2 => ∃ a l k, e = .returned (.slice a l k) ∧ Hid (P (.returned (.tuple #[.slice a l k, .int .i64 0])) w2)) := by
    show Calls _ _ _ _ _
    refine (fencode_any W1 vp plain (Sl.later hp hN1) s hs1 hs2 hpl).mono ?_
    rintro e w2 ⟨v', bl, rfl, hE, hM, hN⟩
    obtain ⟨a, k, rfl, _, _⟩ := hM.sl.form
    refine ⟨a, _, k, rfl, ?_⟩
    show P _ _
    rw [hP]
    exact ⟨a, k, bl, rfl, hE, hM.more (fun k hk => .inl (Nat.lt_of_lt_of_le hk hN1.size)), hN1.trans hN⟩
  obtain ⟨pa, pc, rfl, _, _⟩ := hp.form
  have hz1 : ¬ (s.block : Int) < 4 := by omega
  have hz2 : ¬ (7 : Int) < (s.block : Int) := by omega
  have hz3 : ¬ (4194304 : Int) < (plain.length : Int) := by omega
  clear hP hp hrow hN1
  generalize plain.length = L at *
  go_enter Try.func10, Try.ntmps10
  go_wp2_with (first | (go_at_call 22; with_reducible refine HC.out.mono ?_; rintro e w2 ⟨a, l, k, rfl, HF⟩))
  exact HF.out
theorem or_user (u : Nat) (h : u ≤ 15) : bits .or .i64 407710288 (u : Int) = ((407710288 + u : Nat) : Int) := by
  have : ∀ z : Fin 16, bits .or .i64 407710288 (z.val : Int) = ((407710288 + z.val : Nat) : Int) := by decide
  exact this ⟨u, by omega⟩
/-- A frame that is skipped. -/
def skipB (u : Nat) (b : List By) : List By := lows (407710288 + u) 4 ++ lows b.length 4 ++ b
set_option maxHeartbeats 8000000 in
theorem fSkip_ok (w : World) (vp : Value) (b : List By) (hp : Old w vp b) (u : Nat) (hu : u ≤ 15) (hpl : b.length ≤ 4194304) :
    Calls Try.prog 12 #[.int .i64 u, vp] w fun e w' => ∃ a k, e = .returned (.tuple #[.slice a (skipB u b).length k, .int .i64 0]) ∧ Mine (fun k => k < w.heap.size) (.slice a (skipB u b).length k) (skipB u b) w' ∧ Nw w w' := by
  obtain ⟨P, hP⟩ : ∃ P : Ending → World → Prop, P = fun e w' => ∃ a k, e = .returned (.tuple #[.slice a (skipB u b).length k, .int .i64 0]) ∧ Mine (fun k => k < w.heap.size) (.slice a (skipB u b).length k) (skipB u b) w' ∧ Nw w w' := ⟨_, rfl⟩
  rw [← hP]
  have H1 : Hid (Calls Try.prog 27 #[.slice none 0 0, .int .u64 ((407710288 + u : Nat) : Int), .int .i64 4] w fun e w2 => ∃ a l k, e = .returned (.slice a l k) ∧ Hid (Calls Try.prog 27 #[.slice a l k, .int .u64 b.length, .int .i64 4] w2 fun e w3 => ∃ a3 l3 k3, e = .returned (.slice a3 l3 k3) ∧ ∃ a5 l5 k5 W, Hid (∀ ty, (Builtin.append_ #[22, 22] ty #[.slice a3 l3 k3, vp]).run Try.prog w3 = .ok (.slice a5 l5 k5) W) ∧ Hid (P (.returned (.tuple #[.slice a5 l5 k5, .int .i64 0])) W))) := by
    show Calls _ _ _ _ _
    refine (fput_any (fun k => k < w.heap.size) w (fun k hk => hk) _ [] (Mine.nil _ _) (407710288 + u) 4 (by omega) (by decide) (by simp)).mono ?_
    rintro e w2 ⟨v2, rfl, hM2, hF2⟩
    obtain ⟨a, k, rfl, _, _⟩ := hM2.sl.form
    refine ⟨a, _, k, rfl, ?_⟩
    show Calls _ _ _ _ _
    refine (fput_any (fun k => k < w.heap.size) w2 (fun k hk => Nat.lt_of_lt_of_le hk hF2.size) _ _ hM2 b.length 4 (by omega) (by decide) (by simp [lows_length])).mono ?_
    rintro e w3 ⟨v3, rfl, hM3, hF3⟩
    obtain ⟨a3, k3, rfl, _, _⟩ := hM3.sl.form
    have hF := hF2.trans hF3
    have hb3 : Sl (fun k => w.heap.size ≤ k) vp b w3 := hp.kept hF (fun k hk => by omega)
    obtain ⟨v5, W, hap, hM5, hF5⟩ := mine_app (fun k => k < w.heap.size) w3 (fun k hk => Nat.lt_of_lt_of_le hk hF.size) _ _ hM3 vp b (hb3.mono (fun _ h => h.elim)) (by simp [lows_length]; omega)
    obtain ⟨a5, k5, rfl, _, _⟩ := hM5.sl.form
    refine ⟨a3, _, k3, rfl, a5, _, k5, W, hap, ?_⟩
    show P _ _
    rw [hP]
    have e : [] ++ lows (407710288 + u) 4 ++ lows b.length 4 ++ b = skipB u b := by simp [skipB]
    rw [e] at hM5 ⊢
    exact ⟨a5, k5, rfl, hM5, (hF.trans hF5).mono (fun k hk => .inr (by omega))⟩
  obtain ⟨pa, pc, rfl, _, _⟩ := hp.form
  have hor := or_user u hu
  have hz1 : ¬ (15 : Int) < (u : Int) := by omega
  have hz3 : ¬ (4194304 : Int) < (b.length : Int) := by omega
  clear hP hp
  generalize b.length = L at *
  obtain ⟨M, hM⟩ : ∃ M, 407710288 + u = M := ⟨_, rfl⟩
  rw [hM] at hor H1
  have hMl : M < 407710304 := by omega
  clear hM
  go_enter Try.func12, Try.ntmps12
  go_wp2_with (first | (go_at_call 27; with_reducible refine H1.out.mono ?_; rintro e w2 ⟨a2, l2, k2, rfl, H2⟩) | (go_at_call 27; with_reducible refine H2.out.mono ?_; rintro e w3 ⟨a3, l3, k3, rfl, a5, l5, k5, W, HAP, HF⟩) | (at_builtin; refine Lib.wpList_append_run _ rfl _ _ 22 22 rfl (.slice a3 l3 k3) (.slice pa L pc) (by simp [Act.eval]) (by simp [Act.eval]) _ _ (HAP.out _) ?_))
  exact HF.out
end Go.Proofs.Ytdeefemeiggolaa

namespace Go.Proofs.Ytdeefemeiggolaa
open Go.RowKit
set_option linter.unusedVariables false
/-! ### The document's examples -/
def exS : Shp := ⟨4, true, false, false, false⟩
def exA : List By := [4#8, 34#8, 77#8, 24#8, 96#8, 64#8, 130#8, 1#8, 0#8, 0#8, 128#8, 97#8, 0#8, 0#8, 0#8, 0#8]
def exX : List By := [83#8, 42#8, 77#8, 24#8, 2#8, 0#8, 0#8, 0#8, 120#8, 121#8]
theorem exX_eq : skipB 3 [120#8, 121#8] = exX := by rfl
theorem ex_head : fhead exS 1 = [96#8, 64#8, 130#8] := by
  have e : fhd exS 1 = [96#8, 64#8] := by rfl
  unfold fhead
  rw [e]
  have : hs [96#8, 64#8] = 130#8 := by kernel_rfl
  rw [this]; rfl
theorem EncOf.some {p ahead b : List By} (h : EncOf p ahead b) (hp : p.length ≤ 4194304) : b ≠ [] := by
  intro e
  subst e
  have := h.dec hp
  unfold Go.Proofs.Ytdeefemeiggolaa.dec at this
  rw [if_neg (by omega), scanS] at this
  simp at this
theorem ex_frame (bl : List By) (h : EncB exS [97#8] 0 bl) : frameB exS [97#8] bl = exA := by
  have hsz : siz exS = 65536 := by decide
  cases h with
  | fin _ h => simp at h
  | step _ bk rest h hE hr =>
    have hbk := hE.some (by unfold tk; simp; omega)
    have hrest : rest = [] := by
      cases hr with
      | fin _ _ => rfl
      | step _ _ _ h _ _ => simp [hsz] at h
    subst hrest
    have e1 : tk [97#8] 0 (siz exS) = [97#8] := by rw [hsz]; simp [tk]
    have hpl : plainer [97#8] bk = true := by
      unfold plainer
      rw [decide_eq_true_eq]
      have := List.length_pos_iff.2 hbk
      simp; omega
    rw [e1]
    unfold frameB blkOf stood stnum
    rw [if_pos hpl, if_pos hpl]
    simp only [List.length_singleton]
    rw [ex_head]
    rfl
theorem ex_headF : headF exA 4 = .ok (exS, 0, 7) := by
  unfold headF
  have h1 : exA[4]? = some 96#8 := rfl
  have h2 : exA[4 + 1]? = some 64#8 := rfl
  rw [h1]
  simp only
  rw [if_neg (by decide), h2]
  simp only
  rw [if_neg (by decide), if_neg (by decide)]
  have h3 : shp 96#8 64#8 = exS := by rfl
  rw [h3]
  have h4 : hl exS = 2 := rfl
  rw [h4]
  have h5 : hs (tk exA 4 2) = 130#8 := by kernel_rfl
  rw [h5, if_neg (by decide)]
  rfl
theorem ex_block9 : blockF exA 9 exS 0 7 [] = .ok 12 [97#8] true := by
  unfold blockF
  have h1 : le (tk exA 7 4) = 2147483649 := by rfl
  rw [h1, if_neg (by decide), if_neg (by decide), if_neg (by decide), if_neg (by decide), if_neg (by decide), if_pos (by decide), if_neg (by decide)]
  rfl
theorem ex_block0 : blockF exA 0 exS 0 7 [] = .bad 11 32 := by
  unfold blockF
  have h1 : le (tk exA 7 4) = 2147483649 := by rfl
  rw [h1, if_neg (by decide), if_neg (by decide), if_neg (by decide), if_neg (by decide), if_neg (by decide), if_pos (by decide), if_pos (by decide)]
theorem ex_fin : blockF exA 9 exS 0 12 [97#8] = .fin := by
  unfold blockF
  rw [if_neg (by decide), if_pos (by decide)]
theorem ex_dec9 : fdec exA 9 = ([97#8], 16, 0) := by
  have hf : frameF exA 9 0 [] = .ok (⟨0, 16, false, 0, exS, 1, 1, 1⟩, [97#8]) := by
    unfold frameF
    rw [show 0 + 4 = 4 from rfl, ex_headF]
    simp only [List.length_nil]
    rw [blocksF_eq, ex_block9]
    simp only
    rw [blocksF_eq, ex_fin]
    simp only
    rw [if_neg (by decide), if_neg (by decide)]
    rfl
  have hn : nextF exA 9 0 [] = .ok (⟨0, 16, false, 0, exS, 1, 1, 1⟩, [97#8]) := by
    unfold nextF
    rw [if_neg (by decide), if_pos (by decide), hf]
  unfold fdec
  rw [if_neg (by decide)]
  have : readF exA (9 : Int).toNat 0 [] [] = .ok ([97#8], [⟨0, 16, false, 0, exS, 1, 1, 1⟩]) := by
    show readF exA 9 0 [] [] = _
    rw [readF_eq, if_pos (by decide), hn]
    simp only
    rw [readF_eq, if_neg (by decide)]
    rfl
  rw [this]
  rfl
theorem ex_dec0 : fdec exA 0 = ([], 11, 32) := by
  have hf : frameF exA 0 0 [] = .bad 11 32 := by
    unfold frameF
    rw [show 0 + 4 = 4 from rfl, ex_headF]
    simp only [List.length_nil]
    rw [blocksF_eq, ex_block0]
  have hn : nextF exA 0 0 [] = .bad 11 32 := by
    unfold nextF
    rw [if_neg (by decide), if_pos (by decide), hf]
  unfold fdec
  rw [if_neg (by decide)]
  have : readF exA (0 : Int).toNat 0 [] [] = .bad 11 32 := by
    show readF exA 0 0 [] [] = _
    rw [readF_eq, if_pos (by decide), hn]
  rw [this]
theorem row_cell_fr {w : World} {rb : Nat} {a : Array Value} {T : Nat} {fr : Nat × Nat} (h : w.heap[rb]? = some (.cells a T fr)) (j : Nat) (v : Value) (hv : a[j]? = some v) : w.cell? ⟨rb, j, none⟩ = some v := by
  simp [World.cell?, h, hv]
theorem old_const1 (V : World) (x : By) : Old (V.alloc (.cells #[.int .u8 x.toNat] 5 (1, 2))) (.slice (some ⟨V.heap.size, 0, none⟩) 1 1) [x] := by
  refine .inr ⟨V.heap.size, by simp, 0, 1, rfl, by simp, by simp, fun j hj => ?_⟩
  obtain rfl : j = 0 := by simpa using hj
  have : (V.alloc (.cells #[.int .u8 x.toNat] 5 (1, 2))).heap[V.heap.size]? = some (.cells #[.int .u8 x.toNat] 5 (1, 2)) := by
    show (V.heap.push _)[V.heap.size]? = _
    rw [Array.getElem?_push_size]
  exact row_cell_fr this 0 _ rfl
theorem old_const2 (V : World) (x y : By) : Old (V.alloc (.cells #[.int .u8 x.toNat, .int .u8 y.toNat] 5 (2, 3))) (.slice (some ⟨V.heap.size, 0, none⟩) 2 2) [x, y] := by
  have : (V.alloc (.cells #[.int .u8 x.toNat, .int .u8 y.toNat] 5 (2, 3))).heap[V.heap.size]? = some (.cells #[.int .u8 x.toNat, .int .u8 y.toNat] 5 (2, 3)) := by
    show (V.heap.push _)[V.heap.size]? = _
    rw [Array.getElem?_push_size]
  refine .inr ⟨V.heap.size, by simp, 0, 2, rfl, by simp, by simp, fun j hj => ?_⟩
  have hj' : j = 0 ∨ j = 1 := by simp at hj; omega
  rcases hj' with rfl | rfl
  · exact row_cell_fr this 0 _ rfl
  · exact row_cell_fr this 1 _ rfl
set_option maxHeartbeats 16000000 in
set_option maxRecDepth 100000 in
theorem lives_any (w : World) : Calls Try.prog 21 #[] w fun e w' => e = .returned (.bool true) ∧ Nw w w' := by
  have hcv1 : ∀ (w : World), (convert 22 22 (.slice (some ⟨w.heap.size, 0, none⟩) 1 1)).run Try.prog (w.alloc (.cells #[.int .u8 97] 5)) = .ok (.slice (some ⟨w.heap.size, 0, none⟩) 1 1) (w.alloc (.cells #[.int .u8 97] 5 (1, 2))) := fun w => Lib.run_convert_bytes_const w 22 5 _ 1 1 Try.underlying22 Try.underlying5
  have hcv2 : ∀ (w : World), (convert 22 22 (.slice (some ⟨w.heap.size, 0, none⟩) 2 2)).run Try.prog (w.alloc (.cells #[.int .u8 120, .int .u8 121] 5)) = .ok (.slice (some ⟨w.heap.size, 0, none⟩) 2 2) (w.alloc (.cells #[.int .u8 120, .int .u8 121] 5 (2, 3))) := fun w => Lib.run_convert_bytes_const w 22 5 _ 2 2 Try.underlying22 Try.underlying5
  have H1 : Hid (Calls Try.prog 10 #[.slice (some ⟨w.heap.size, 0, none⟩) 1 1, .agg #[.int .i64 4, .bool true, .bool false, .bool false, .bool false]] (w.alloc (.cells #[.int .u8 97] 5 (1, 2))) fun e w1 => ∃ a k, e = .returned (.tuple #[.slice a 16 k, .int .i64 0]) ∧ Hid (Old w1 (.slice a 16 k) exA ∧ Nw w w1)) := by
    show Calls _ _ _ _ _
    refine (fEncode_ok _ _ [97#8] (old_const1 w 97#8) exS (by decide) (by decide) (by decide)).mono ?_
    rintro e w1 ⟨a, k, bl, rfl, hE, hM, hN⟩
    have he := ex_frame bl hE
    rw [he] at hM ⊢
    exact ⟨a, k, rfl, hM.old, Nw.trans ((Fr.refl _ _).alloc _) hN⟩
  have H2 : Hid (∀ w1 a k, Hid (Old w1 (.slice a 16 k) exA ∧ Nw w w1) → Calls Try.prog 15 #[.slice a 16 k, .int .i64 9] w1 fun e w2 => ∃ a2 k2, e = .returned (.tuple #[.slice a2 1 k2, .int .i64 16, .int .i64 0]) ∧ Hid (Old w2 (.slice a 16 k) exA ∧ Old w2 (.slice a2 1 k2) [97#8] ∧ Nw w w2)) := by
    intro w1 a k h
    refine (fdecode_any w1 _ exA 9 h.out.1 (by decide)).mono ?_
    rw [ex_dec9]
    rintro e w2 ⟨a2, k2, rfl, hM, hN⟩
    exact ⟨a2, k2, rfl, Sl.later h.out.1 hN, hM.old, h.out.2.trans hN⟩
  have H3 : Hid (∀ w1 a k a2 k2, Hid (Old w1 (.slice a 16 k) exA ∧ Old w1 (.slice a2 1 k2) [97#8] ∧ Nw w w1) → Calls Try.prog 15 #[.slice a 16 k, .int .i64 0] w1 fun e w2 => ∃ a3 k3, e = .returned (.tuple #[.slice a3 0 k3, .int .i64 11, .int .i64 32]) ∧ Hid (Old w2 (.slice a 16 k) exA ∧ Old w2 (.slice a2 1 k2) [97#8] ∧ Nw w w2)) := by
    intro w1 a k a2 k2 h
    refine (fdecode_any w1 _ exA 0 h.out.1 (by decide)).mono ?_
    rw [ex_dec0]
    rintro e w2 ⟨a3, k3, rfl, hM, hN⟩
    exact ⟨a3, k3, rfl, Sl.later h.out.1 hN, Sl.later h.out.2.1 hN, h.out.2.2.trans hN⟩
  have H4 : Hid (∀ w1 a k a2 k2, Hid (Old w1 (.slice a 16 k) exA ∧ Old w1 (.slice a2 1 k2) [97#8] ∧ Nw w w1) → Calls Try.prog 12 #[.int .i64 3, .slice (some ⟨w1.heap.size, 0, none⟩) 2 2] (w1.alloc (.cells #[.int .u8 120, .int .u8 121] 5 (2, 3))) fun e w2 => ∃ a4 k4, e = .returned (.tuple #[.slice a4 10 k4, .int .i64 0]) ∧ (convert 22 9 (.slice a 16 k)).run Try.prog w2 = .ok (.string (str exA)) w2 ∧ (convert 22 9 (.slice a2 1 k2)).run Try.prog w2 = .ok (.string (str [97#8])) w2 ∧ (convert 22 9 (.slice a4 10 k4)).run Try.prog w2 = .ok (.string (str exX)) w2 ∧ Hid (Nw w w2)) := by
    intro w1 a k a2 k2 h
    have hN1 : Nw w1 (w1.alloc (.cells #[.int .u8 120, .int .u8 121] 5 (2, 3))) := (Fr.refl _ _).alloc _
    refine (fSkip_ok _ _ [120#8, 121#8] (old_const2 w1 120#8 121#8) 3 (by decide) (by decide)).mono ?_
    rw [exX_eq]
    rintro e w2 ⟨a4, k4, rfl, hM, hN⟩
    exact ⟨a4, k4, rfl, conv_any (Sl.later h.out.1 (hN1.trans hN)), conv_any (Sl.later h.out.2.1 (hN1.trans hN)), conv_any hM.old, h.out.2.2.trans (hN1.trans hN)⟩
  have sA : str exA = ⟨#[4, 34, 77, 24, 96, 64, 130, 1, 0, 0, 128, 97, 0, 0, 0, 0]⟩ := by rfl
  have sP : str [97#8] = ⟨#[97]⟩ := by rfl
  have sX : str exX = ⟨#[83, 42, 77, 24, 2, 0, 0, 0, 120, 121]⟩ := by rfl
  rw [sA, sP, sX] at H4
  clear sA sP sX
  go_enter Try.func21, Try.ntmps21
  go_wp2_with (first | (go_at_call 10; with_reducible refine H1.out.mono ?_; rintro e w1 ⟨a, k, rfl, K1⟩) | (go_at_call 15; with_reducible refine (H2.out _ _ _ K1).mono ?_; rintro e w2 ⟨a2, k2, rfl, K2⟩) | (go_at_call 15; with_reducible refine (H3.out _ _ _ _ _ K2).mono ?_; rintro e w3 ⟨a3, k3, rfl, K3⟩) | (go_at_call 12; with_reducible refine (H4.out _ _ _ _ _ K3).mono ?_; rintro e w4 ⟨a4, k4, rfl, f1, f2, f3, K4⟩))
  go_ret
  exact ⟨rfl, K4.out⟩
end Go.Proofs.Ytdeefemeiggolaa

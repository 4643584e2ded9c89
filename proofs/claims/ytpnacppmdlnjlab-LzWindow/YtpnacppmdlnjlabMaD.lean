import Derived.Test.YtpnacppmdlnjlabMaC
namespace Go.Proofs.Ytpnacppmdlnjlab
open Go.RowKit
set_option linter.unusedVariables false
set_option maxHeartbeats 8000000 in
set_option maxRecDepth 100000 in
/-- A sequence put. -/
theorem put_match (K : Nat → Prop) (w : World) (hK : ∀ k, K k → k < w.heap.size) (v : Value) (b : List By) (hb : Mine K v b w) (vp : Value) (p : List By) (hp : Sl (fun k => ¬ K k) vp p w) (hpl : p.length ≤ 10000000) (bk n : Nat) (hb1 : 1 ≤ bk) (hb2 : bk ≤ 65535) (hn1 : 4 ≤ n) (hn2 : n ≤ 10000000) (hs : b.length ≤ 100000000) :
    Calls Try.prog 18 #[v, .agg #[vp, .int .i64 bk, .int .i64 n]] w fun e w' => ∃ v', e = .returned v' ∧ Mine K v' (b ++ encS ⟨p, bk, n⟩) w' ∧ Fr (fun k => ¬ K k) w w' := by
  obtain ⟨P, hP⟩ : ∃ P : Ending → World → Prop, P = fun e w' => ∃ v', e = .returned v' ∧ Mine K v' (b ++ encS ⟨p, bk, n⟩) w' ∧ Fr (fun k => ¬ K k) w w' := ⟨_, rfl⟩
  rw [← hP]
  have HP : Hid (P = fun e w' => ∃ v', e = .returned v' ∧ Mine K v' (b ++ encS ⟨p, bk, n⟩) w' ∧ Fr (fun k => ¬ K k) w w') := hP
  clear hP
  obtain ⟨W0, hW0⟩ : ∃ W0, w.alloc (.cells #[vp, .int .i64 bk, .int .i64 n] 60) = W0 := ⟨_, rfl⟩
  have hN0 : Nw w W0 := by rw [← hW0]; exact (Fr.refl _ _).alloc _
  have hs0 : W0.heap.size = w.heap.size + 1 := by rw [← hW0]; simp
  obtain ⟨q, hq⟩ : ∃ q, w.heap.size = q := ⟨_, rfl⟩
  have hB0 : Bq q vp bk n W0 := by rw [← hW0, ← hq]; exact ⟨new_cell _ _ _ _ _ rfl, new_cell _ _ _ _ _ rfl, new_cell _ _ _ _ _ rfl⟩
  have hK1 : ∀ k, (K k ∨ k = q) → k < W0.heap.size := fun k hk => by rcases hk with hk | hk; have := hK k hk; omega; omega
  have hM0 : Mine (fun k => K k ∨ k = q) v b W0 := (hb.more (fun g hg => by rcases hg with hg | hg; exact .inl hg; exact .inr (by omega))).nw hN0
  have htk : ((16 * min p.length 15 + min (n - 4) 15 : Nat) : Int) = ((tok p.length (n - 4)).toNat : Int) := by unfold tok; rw [BitVec.toNat_ofNat]; omega
  obtain ⟨a, c, v1, W1, rfl, HAP1, HN1⟩ := mine_step _ b W0 hK1 v hM0 (by omega) (tok p.length (n - 4)) _ htk
  obtain ⟨hM1, hF1⟩ := HN1.out
  have hqK : ¬ ¬ (K q ∨ q = q) := fun h => h (.inr rfl)
  have hB1 := hB0.kept hF1 hqK
  have hFw : ∀ {V V' : World}, Fr (fun k => ¬ (K k ∨ k = q)) V V' → Fr (fun k => ¬ K k) V V' := fun h => h.mono (fun k hk => .inl (fun h => hk (.inl h)))
  have HPN : Hid (Calls Try.prog 25 #[v1, .int .i64 p.length] W1 fun e w2 => ∃ v2, e = .returned v2 ∧ Bq q vp bk n w2 ∧ ∃ v3 W3, Hid (∀ ty, (Builtin.append_ #[22, 22] ty #[v2, vp]).run Try.prog w2 = .ok v3 W3) ∧ Bq q vp bk n W3 ∧ ∃ a3 l3 c3 v4 W4, v3 = .slice a3 l3 c3 ∧ Hid (∀ ty, (Builtin.append_ #[22, 22] ty #[v3, .slice (some ⟨W3.heap.size, 0, none⟩) 2 2]).run Try.prog (W3.alloc (.cells #[.int .u8 (bk % 256 : Nat), .int .u8 (bk / 256 : Nat)] 5)) = .ok v4 W4) ∧ Hid (Calls Try.prog 25 #[v4, .int .i64 (n - 4 : Nat)] W4 fun e w5 => ∃ v5, e = .returned v5 ∧ Hid (P (.returned v5) w5))) := by
    show Calls _ _ _ _ _
    refine (putNumber_any _ W1 (fun k hk => Nat.lt_of_lt_of_le (hK1 k hk) hF1.size) v1 _ hM1 p.length (by omega) (by rw [List.length_append, List.length_singleton]; omega)).mono ?_
    rintro e w2 ⟨v2, rfl, hM2, hF2⟩
    have hB2 := hB1.kept hF2 hqK
    have hp2 : Sl (fun k => ¬ K k) vp p w2 := ((hp.nw hN0).kept hF1 (fun g hg h => hg (.inl h))).kept hF2 (fun g hg h => hg (.inl h))
    have hel : (ext p.length).length ≤ p.length + 1 := by unfold ext numb; split <;> simp; omega
    obtain ⟨v3, W3, hap, hM3, hF3⟩ := mine_app _ w2 (fun k hk => Nat.lt_of_lt_of_le (hK1 k hk) (Nat.le_trans hF1.size hF2.size)) v2 _ hM2 vp p (hp2.mono (fun _ h => h.elim)) (by rw [List.length_append, List.length_append, List.length_singleton]; omega)
    have hA : Nw W3 (W3.alloc (.cells #[.int .u8 (bk % 256 : Nat), .int .u8 (bk / 256 : Nat)] 5)) := (Fr.refl _ _).alloc _
    have htwo := two_new W3 (BitVec.ofNat 8 (bk % 256)) (BitVec.ofNat 8 (bk / 256)) (bk % 256 : Nat) (bk / 256 : Nat) (by rw [BitVec.toNat_ofNat]; omega) (by rw [BitVec.toNat_ofNat]; omega)
    have hK3 : ∀ k, (K k ∨ k = q) → k < W3.heap.size := fun k hk => Nat.lt_of_lt_of_le (hK1 k hk) (Nat.le_trans hF1.size (Nat.le_trans hF2.size hF3.size))
    have hK4 : ∀ k, (K k ∨ k = q) → k < (W3.alloc (.cells #[.int .u8 (bk % 256 : Nat), .int .u8 (bk / 256 : Nat)] 5)).heap.size := fun k hk => Nat.lt_of_lt_of_le (hK3 k hk) hA.size
    obtain ⟨v4, W4, hap4, hM4, hF4⟩ := mine_app _ (W3.alloc (.cells #[.int .u8 (bk % 256 : Nat), .int .u8 (bk / 256 : Nat)] 5)) hK4 v3 _ (hM3.nw hA) _ _ htwo (by simp only [List.length_append, List.length_cons, List.length_nil]; omega)
    obtain ⟨a3, c3, e3, _, _⟩ := hM3.sl.form
    refine ⟨v2, rfl, hB2, v3, W3, hap, hB2.kept hF3 hqK, a3, _, c3, v4, W4, e3, hap4, ?_⟩
    show Calls _ _ _ _ _
    refine (putNumber_any _ W4 (fun k hk => Nat.lt_of_lt_of_le (hK4 k hk) hF4.size) v4 _ hM4 (n - 4) (by omega) (by simp only [List.length_append, List.length_cons, List.length_nil]; omega)).mono ?_
    rintro e w5 ⟨v5, rfl, hM5, hF5⟩
    refine ⟨v5, rfl, ?_⟩
    show P _ _
    rw [HP.out]
    refine ⟨v5, rfl, ?_, (((((hN0.any.trans (hFw hF1)).trans (hFw hF2)).trans (hFw hF3)).trans hA.any).trans (hFw hF4)).trans (hFw hF5)⟩
    have e : b ++ [tok p.length (n - 4)] ++ ext p.length ++ p ++ [BitVec.ofNat 8 (bk % 256), BitVec.ofNat 8 (bk / 256)] ++ ext (n - 4) = b ++ encS ⟨p, bk, n⟩ := by unfold encS; simp
    rw [e] at hM5
    exact hM5.more (fun g hg => .inl (.inl hg))
  obtain ⟨ap, cp, rfl, _, _⟩ := hp.form
  clear htk HN1 hM1 hF1 hM0 hK1 hb hp hK HP hN0
  obtain ⟨x0, x1, x2⟩ := hB0
  obtain ⟨y0, y1, y2⟩ := hB1
  generalize hP0 : p.length = pl0 at *
  generalize hbl : b.length = bl at *
  have hmin : min (pl0 : Int) 15 = ((min pl0 15 : Nat) : Int) := by omega
  generalize hm : n - 4 = m at *
  have hz0 : max ((n : Int) - 4) 0 = (m : Int) := by omega
  have hmin0 : min (m : Int) 15 = ((min m 15 : Nat) : Int) := by omega
  have hor : bits .or .i64 ((min pl0 15 : Nat) * 16 : Int) ((min m 15 : Nat) : Int) = ((16 * min pl0 15 + min m 15 : Nat) : Int) := or_tok (min pl0 15) (min m 15) (by omega) (by omega)
  have hw8 : ((16 * min pl0 15 + min m 15 : Nat) : Int) % 256 = ((16 * min pl0 15 + min m 15 : Nat) : Int) := by omega
  have hx8 : (bk : Int) % 256 = ((bk % 256 : Nat) : Int) := by omega
  have hy8 : (bk : Int) / 256 = ((bk / 256 : Nat) : Int) := by omega
  have hy9 : ((bk / 256 : Nat) : Int) % 256 = ((bk / 256 : Nat) : Int) := by omega
  have hbz : ¬ (bk : Int) = 0 := by omega
  generalize min pl0 15 = mp at *
  generalize min m 15 = mm at *
  generalize 16 * mp + mm = T at *
  generalize bk % 256 = bx at *
  generalize bk / 256 = by' at *
  clear hP0 hbl hm
  obtain ⟨q1, hq1⟩ : ∃ q1, W0.heap.size = q1 := ⟨_, rfl⟩
  rw [hq1] at HAP1
  clear hs0
  go_enter Try.func18, Try.ntmps18
  go_wp2_with (first
    | (at_builtin; refine Lib.wpList_append_run _ rfl _ _ 22 22 rfl (.slice a bl c) (.slice (some ⟨q1, 0, none⟩) 1 1) (by simp [Act.eval]) (by simp [Act.eval]) _ _ (HAP1.out _) ?_)
    | (go_at_call 25; with_reducible refine (HPN.out).mono ?_; rintro e w2 ⟨v2, rfl, ⟨z0, z1, z2⟩, v3, W3, HAP3, ⟨t0, t1, t2⟩, a3, l3, c3, v4, W4, rfl, HAP4, HF⟩)
    | (at_builtin; refine Lib.wpList_append_run _ rfl _ _ 22 22 rfl v2 (.slice ap pl0 cp) (by simp [Act.eval]) (by simp [Act.eval]) _ _ (HAP3.out _) ?_)
    | (at_builtin; refine Lib.wpList_append_run _ rfl _ _ 22 22 rfl (.slice a3 l3 c3) (.slice (some ⟨W3.heap.size, 0, none⟩) 2 2) (by simp [Act.eval]) (by simp [Act.eval]) _ _ (HAP4.out _) ?_)
    | (go_at_call 25; with_reducible refine (HF.out).mono ?_; rintro e w5 ⟨v5, rfl, HE⟩))
  exact HE.out
end Go.Proofs.Ytpnacppmdlnjlab

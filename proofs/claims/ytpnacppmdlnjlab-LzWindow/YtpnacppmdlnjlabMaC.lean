import Derived.Test.YtpnacppmdlnjlabMaB
namespace Go.Proofs.Ytpnacppmdlnjlab
open Go.RowKit
set_option linter.unusedVariables false
/-- A sequence in a block of its own. -/
structure Bq (q : Nat) (vp : Value) (zb zn : Int) (w : World) : Prop where
  c0 : w.cell? ⟨q, 0, none⟩ = some vp
  c1 : w.cell? ⟨q, 1, none⟩ = some (.int .i64 zb)
  c2 : w.cell? ⟨q, 2, none⟩ = some (.int .i64 zn)
theorem Bq.kept {q : Nat} {vp : Value} {zb zn : Int} {w w' : World} {X : Nat → Prop} (h : Bq q vp zb zn w) (f : Fr X w w') (hx : ¬ X q) : Bq q vp zb zn w' := ⟨f.cellv h.c0 hx, f.cellv h.c1 hx, f.cellv h.c2 hx⟩
theorem two_new (w : World) (x y : By) (zx zy : Int) (hx : zx = x.toNat) (hy : zy = y.toNat) : Sl (fun _ => False) (.slice (some ⟨w.heap.size, 0, none⟩) 2 2) [x, y] (w.alloc (.cells #[.int .u8 zx, .int .u8 zy] 5)) := by
  subst hx hy
  refine .inr ⟨w.heap.size, fun h => h, 0, 2, rfl, by simp, by decide, fun j hj => ?_⟩
  have : j = 0 ∨ j = 1 := by simp at hj; omega
  rcases this with rfl | rfl
  · exact new_cell _ _ _ _ _ rfl
  · exact new_cell _ _ _ _ _ rfl
set_option maxHeartbeats 8000000 in
set_option maxRecDepth 100000 in
/-- The last sequence put. -/
theorem put_last (K : Nat → Prop) (w : World) (hK : ∀ k, K k → k < w.heap.size) (v : Value) (b : List By) (hb : Mine K v b w) (vp : Value) (p : List By) (hp : Sl (fun k => ¬ K k) vp p w) (hpl : p.length ≤ 10000000) (hs : b.length ≤ 100000000) :
    Calls Try.prog 18 #[v, .agg #[vp, .int .i64 0, .int .i64 0]] w fun e w' => ∃ v', e = .returned v' ∧ Mine K v' (b ++ encL p) w' ∧ Fr (fun k => ¬ K k) w w' := by
  obtain ⟨P, hP⟩ : ∃ P : Ending → World → Prop, P = fun e w' => ∃ v', e = .returned v' ∧ Mine K v' (b ++ encL p) w' ∧ Fr (fun k => ¬ K k) w w' := ⟨_, rfl⟩
  rw [← hP]
  have HP : Hid (P = fun e w' => ∃ v', e = .returned v' ∧ Mine K v' (b ++ encL p) w' ∧ Fr (fun k => ¬ K k) w w') := hP
  clear hP
  obtain ⟨W0, hW0⟩ : ∃ W0, w.alloc (.cells #[vp, .int .i64 0, .int .i64 0] 60) = W0 := ⟨_, rfl⟩
  have hN0 : Nw w W0 := by rw [← hW0]; exact (Fr.refl _ _).alloc _
  have hs0 : W0.heap.size = w.heap.size + 1 := by rw [← hW0]; simp
  obtain ⟨q, hq⟩ : ∃ q, w.heap.size = q := ⟨_, rfl⟩
  have hB0 : Bq q vp 0 0 W0 := by rw [← hW0, ← hq]; exact ⟨new_cell _ _ _ _ _ rfl, new_cell _ _ _ _ _ rfl, new_cell _ _ _ _ _ rfl⟩
  have hK1 : ∀ k, (K k ∨ k = q) → k < W0.heap.size := fun k hk => by rcases hk with hk | hk; have := hK k hk; omega; omega
  have hM0 : Mine (fun k => K k ∨ k = q) v b W0 := (hb.more (fun g hg => by rcases hg with hg | hg; exact .inl hg; exact .inr (by omega))).nw hN0
  have htk : ((16 * min p.length 15 + 0 : Nat) : Int) = ((tok p.length 0).toNat : Int) := by unfold tok; rw [BitVec.toNat_ofNat]; omega
  obtain ⟨a, c, v1, W1, rfl, HAP1, HN1⟩ := mine_step _ b W0 hK1 v hM0 (by omega) (tok p.length 0) _ htk
  obtain ⟨hM1, hF1⟩ := HN1.out
  have hqK : ¬ ¬ (K q ∨ q = q) := fun h => h (.inr rfl)
  have hB1 := hB0.kept hF1 hqK
  have hFw : ∀ {V V' : World}, Fr (fun k => ¬ (K k ∨ k = q)) V V' → Fr (fun k => ¬ K k) V V' := fun h => h.mono (fun k hk => .inl (fun h => hk (.inl h)))
  have HPN : Hid (Calls Try.prog 25 #[v1, .int .i64 p.length] W1 fun e w2 => ∃ v2, e = .returned v2 ∧ Bq q vp 0 0 w2 ∧ ∃ v3 W3, Hid (∀ ty, (Builtin.append_ #[22, 22] ty #[v2, vp]).run Try.prog w2 = .ok v3 W3) ∧ Bq q vp 0 0 W3 ∧ Hid (P (.returned v3) W3)) := by
    show Calls _ _ _ _ _
    refine (putNumber_any _ W1 (fun k hk => Nat.lt_of_lt_of_le (hK1 k hk) hF1.size) v1 _ hM1 p.length (by omega) (by rw [List.length_append, List.length_singleton]; omega)).mono ?_
    rintro e w2 ⟨v2, rfl, hM2, hF2⟩
    have hB2 := hB1.kept hF2 hqK
    have hp2 : Sl (fun k => ¬ K k) vp p w2 := ((hp.nw hN0).kept hF1 (fun g hg h => hg (.inl h))).kept hF2 (fun g hg h => hg (.inl h))
    have hel : (ext p.length).length ≤ p.length + 1 := by unfold ext numb; split <;> simp; omega
    obtain ⟨v3, W3, hap, hM3, hF3⟩ := mine_app _ w2 (fun k hk => Nat.lt_of_lt_of_le (hK1 k hk) (Nat.le_trans hF1.size hF2.size)) v2 _ hM2 vp p (hp2.mono (fun _ h => h.elim)) (by rw [List.length_append, List.length_append, List.length_singleton]; omega)
    refine ⟨v2, rfl, hB2, v3, W3, hap, hB2.kept hF3 hqK, ?_⟩
    show P _ _
    rw [HP.out]
    refine ⟨v3, rfl, ?_, ((hN0.any.trans (hFw hF1)).trans (hFw hF2)).trans (hFw hF3)⟩
    have e : b ++ [tok p.length 0] ++ ext p.length ++ p = b ++ encL p := by unfold encL; simp
    rw [e] at hM3
    exact hM3.more (fun g hg => .inl (.inl hg))
  obtain ⟨ap, cp, rfl, _, _⟩ := hp.form
  clear htk HN1 hM1 hF1 hM0 hK1 hb hp hK HP hN0
  obtain ⟨x0, x1, x2⟩ := hB0
  obtain ⟨y0, y1, y2⟩ := hB1
  generalize hP0 : p.length = pl0 at *
  generalize hbl : b.length = bl at *
  have hmin : min (pl0 : Int) 15 = ((min pl0 15 : Nat) : Int) := by omega
  have hz0 : max (-4 : Int) 0 = 0 := by decide
  have hmin0 : min (0 : Int) 15 = 0 := by decide
  have hw8 : ((16 * min pl0 15 + 0 : Nat) : Int) % 256 = ((16 * min pl0 15 + 0 : Nat) : Int) := by omega
  have hor : bits .or .i64 ((min pl0 15 : Nat) * 16 : Int) 0 = ((16 * min pl0 15 + 0 : Nat) : Int) := or_tok (min pl0 15) 0 (by omega) (by omega)
  generalize min pl0 15 = mp at *
  generalize hT : 16 * mp + 0 = T at *
  clear hP0 hbl hT
  obtain ⟨q1, hq1⟩ : ∃ q1, W0.heap.size = q1 := ⟨_, rfl⟩
  rw [hq1] at HAP1
  clear hs0
  go_enter Try.func18, Try.ntmps18
  go_wp2_with (first
    | (at_builtin; refine Lib.wpList_append_run _ rfl _ _ 22 22 rfl (.slice a bl c) (.slice (some ⟨q1, 0, none⟩) 1 1) (by simp [Act.eval]) (by simp [Act.eval]) _ _ (HAP1.out _) ?_)
    | (go_at_call 25; with_reducible refine (HPN.out).mono ?_; rintro e w2 ⟨v2, rfl, ⟨z0, z1, z2⟩, v3, W3, HAP3, ⟨t0, t1, t2⟩, HF⟩)
    | (at_builtin; refine Lib.wpList_append_run _ rfl _ _ 22 22 rfl v2 (.slice ap pl0 cp) (by simp [Act.eval]) (by simp [Act.eval]) _ _ (HAP3.out _) ?_))
  exact HF.out
end Go.Proofs.Ytpnacppmdlnjlab

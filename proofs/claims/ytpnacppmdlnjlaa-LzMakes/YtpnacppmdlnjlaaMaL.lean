import Derived.Test.YtpnacppmdlnjlaaMaK
namespace Go.Proofs.Ytpnacppmdlnjlaa
open Go.RowKit
set_option linter.unusedVariables false
/-- A number's bytes put behind. -/
theorem ext_more (K : Nat → Prop) (W : World) (hK : ∀ k, K k → k < W.heap.size) (v : Value) (b : List By) (hM : Mine K v b W) (q : Nat) (vp : Value) (zb zn : Int) (hB : Bq q vp zb zn W) (hq : K q) (n : Nat) (h15 : 15 ≤ n) (hn : n ≤ 10000000) (hs : b.length ≤ 100000000) (Q : Value → World → Prop) (hQ : ∀ v' W', Mine K v' (b ++ ext n) W' → Fr (fun k => ¬ K k) W W' → Bq q vp zb zn W' → Q v' W') :
    Calls Try.prog 38 #[.int .i64 (n - 15 : Nat)] W fun e w2 => ∃ an ln cn, e = .returned (.slice an ln cn) ∧ Bq q vp zb zn w2 ∧ ∃ a3 l3 c3 W', Hid (∀ ty, (Builtin.append_ #[22, 22] ty #[v, .slice an ln cn]).run Try.prog w2 = .ok (.slice a3 l3 c3) W') ∧ Bq q vp zb zn W' ∧ Q (.slice a3 l3 c3) W' := by
  refine (rnumber_any W (n - 15) (by omega)).mono ?_
  rintro e w2 ⟨vn, rfl, hMn, hN⟩
  have hel := ext_le n
  have hee : ext n = numb (n - 15) := by unfold ext; rw [if_neg (by omega)]
  rw [hee] at hel
  obtain ⟨v', W', hap, hM', hF⟩ := mine_app K w2 (fun k hk => Nat.lt_of_lt_of_le (hK k hk) hN.size) v b (hM.nw hN) vn _ (hMn.sl.mono (fun _ h => h.elim)) (by omega)
  obtain ⟨an, cn, rfl, _, _⟩ := hMn.sl.form
  obtain ⟨a3, c3, rfl, _, _⟩ := hM'.sl.form
  have hB2 := hB.kept hN (fun h => h)
  have hB3 := hB2.kept hF (fun h => h hq)
  refine ⟨an, _, cn, rfl, hB2, a3, _, c3, W', hap, hB3, hQ _ _ ?_ (hN.any.trans hF) hB3⟩
  rw [hee]; exact hM'
/-- Bytes put behind. -/
theorem app_more (K : Nat → Prop) (W : World) (hK : ∀ k, K k → k < W.heap.size) (v : Value) (b : List By) (hM : Mine K v b W) (q : Nat) (vp : Value) (zb zn : Int) (hB : Bq q vp zb zn W) (hq : K q) (x : Value) (p : List By) (hx : Sl (fun _ => False) x p W) (hs : b.length + p.length ≤ 1000000000) (Q : Value → World → Prop) (hQ : ∀ v' W', Mine K v' (b ++ p) W' → Fr (fun k => ¬ K k) W W' → Bq q vp zb zn W' → Q v' W') :
    ∃ a3 l3 c3 W', Hid (∀ ty, (Builtin.append_ #[22, 22] ty #[v, x]).run Try.prog W = .ok (.slice a3 l3 c3) W') ∧ Bq q vp zb zn W' ∧ Q (.slice a3 l3 c3) W' := by
  obtain ⟨v', W', hap, hM', hF⟩ := mine_app K W hK v b hM x p hx (by omega)
  obtain ⟨a3, c3, rfl, _, _⟩ := hM'.sl.form
  have hB3 := hB.kept hF (fun h => h hq)
  exact ⟨a3, _, c3, W', hap, hB3, hQ _ _ hM' hF hB3⟩
/-- What comes: a number's bytes, if it has any. -/
abbrev CNum (q : Nat) (vp : Value) (zb zn : Int) (n : Nat) (Q : Value → World → Prop) (v : Value) (W : World) : Prop :=
  (n < 15 → Q v W) ∧ (15 ≤ n → Hid (Calls Try.prog 38 #[.int .i64 (n - 15 : Nat)] W fun e w2 => ∃ an ln cn, e = .returned (.slice an ln cn) ∧ Bq q vp zb zn w2 ∧ ∃ a3 l3 c3 W', Hid (∀ ty, (Builtin.append_ #[22, 22] ty #[v, .slice an ln cn]).run Try.prog w2 = .ok (.slice a3 l3 c3) W') ∧ Bq q vp zb zn W' ∧ Q (.slice a3 l3 c3) W'))
/-- What comes: bytes put behind. -/
abbrev CApp (q : Nat) (vp : Value) (zb zn : Int) (Q : Value → World → Prop) (v : Value) (W : World) : Prop :=
  ∃ a3 l3 c3 W', Hid (∀ ty, (Builtin.append_ #[22, 22] ty #[v, vp]).run Try.prog W = .ok (.slice a3 l3 c3) W') ∧ Bq q vp zb zn W' ∧ Q (.slice a3 l3 c3) W'
/-- What comes: two bytes. -/
abbrev CTwo (q : Nat) (vp : Value) (zb zn : Int) (bk : Nat) (Q : Value → World → Prop) (v : Value) (W : World) : Prop :=
  ∃ a3 l3 c3 W', Hid (∀ ty, (Builtin.append_ #[22, 22] ty #[v, .slice (some ⟨W.heap.size, 0, none⟩) 2 2]).run Try.prog (W.alloc (.cells #[.int .u8 (bk % 256 : Nat), .int .u8 (bk / 256 : Nat)] 5)) = .ok (.slice a3 l3 c3) W') ∧ Bq q vp zb zn W' ∧ Q (.slice a3 l3 c3) W'
theorem cnum (K : Nat → Prop) (W : World) (hK : ∀ k, K k → k < W.heap.size) (v : Value) (b : List By) (hM : Mine K v b W) (q : Nat) (vp : Value) (zb zn : Int) (hB : Bq q vp zb zn W) (hq : K q) (n : Nat) (hn : n ≤ 10000000) (hs : b.length ≤ 100000000) (Q : Value → World → Prop) (hQ : ∀ v' W', Mine K v' (b ++ ext n) W' → Fr (fun k => ¬ K k) W W' → Bq q vp zb zn W' → Q v' W') : CNum q vp zb zn n Q v W := by
  refine ⟨fun h => hQ v W ?_ (Fr.refl _ _) hB, fun h => ext_more K W hK v b hM q vp zb zn hB hq n h hn hs Q hQ⟩
  unfold ext; rw [if_pos h, List.append_nil]; exact hM
theorem ctwo (K : Nat → Prop) (W : World) (hK : ∀ k, K k → k < W.heap.size) (v : Value) (b : List By) (hM : Mine K v b W) (q : Nat) (vp : Value) (zb zn : Int) (hB : Bq q vp zb zn W) (hq : K q) (bk : Nat) (hb : bk ≤ 65535) (hs : b.length ≤ 100000000) (Q : Value → World → Prop) (hQ : ∀ v' W', Mine K v' (b ++ [BitVec.ofNat 8 (bk % 256), BitVec.ofNat 8 (bk / 256)]) W' → Fr (fun k => ¬ K k) W W' → Bq q vp zb zn W' → Q v' W') : CTwo q vp zb zn bk Q v W := by
  have hA : Nw W (W.alloc (.cells #[.int .u8 (bk % 256 : Nat), .int .u8 (bk / 256 : Nat)] 5)) := (Fr.refl _ _).alloc _
  have htwo := two_new W (BitVec.ofNat 8 (bk % 256)) (BitVec.ofNat 8 (bk / 256)) (bk % 256 : Nat) (bk / 256 : Nat) (by rw [BitVec.toNat_ofNat]; omega) (by rw [BitVec.toNat_ofNat]; omega)
  exact app_more K _ (fun k hk => Nat.lt_of_lt_of_le (hK k hk) hA.size) v b (hM.nw hA) q vp zb zn (hB.kept hA (fun h => h)) hq _ _ htwo (by simp only [List.length_cons, List.length_nil]; omega) Q (fun v' W' h1 h2 h3 => hQ v' W' h1 (hA.any.trans h2) h3)
/-- A round: the token, and what comes behind it. -/
theorem rmake_round (w wr : World) (hN : Nw w wr) (v : Value) (b : List By) (hM : Mine (fun k => k < w.heap.size) v b wr) (vp : Value) (s : Si) (hu : Sl (fun k => w.heap.size ≤ k) vp s.p wr) (hpl : s.p.length ≤ 10000000) (hnl : s.n ≤ 10000000) (hs : b.length ≤ 50000000) (hok : okI s) (mm : Nat) (hmm : (s.b = 0 ∧ mm = 0) ∨ (canI s ∧ mm = s.n.toNat - 4)) (R : Value → World → Prop) (hR : ∀ v' W', Mine (fun k => k < w.heap.size) v' (b ++ encP s) W' → Nw w W' → R v' W') :
    ∃ a l c a1 l1 c1 W1, v = .slice a l c ∧ Hid (∀ ty, (Builtin.append_ #[22, 22] ty #[.slice a l c, .slice (some ⟨(wr.alloc (.cells #[vp, .int .i64 s.b, .int .i64 s.n] 36)).heap.size, 0, none⟩) 1 1]).run Try.prog ((wr.alloc (.cells #[vp, .int .i64 s.b, .int .i64 s.n] 36)).alloc (.cells #[.int .u8 (16 * min s.p.length 15 + min mm 15 : Nat)] 5)) = .ok (.slice a1 l1 c1) W1) ∧ Bq wr.heap.size vp s.b s.n W1 ∧
      CNum wr.heap.size vp s.b s.n s.p.length (CApp wr.heap.size vp s.b s.n (if s.b = 0 then R else CTwo wr.heap.size vp s.b s.n s.b.toNat (CNum wr.heap.size vp s.b s.n mm R))) (.slice a1 l1 c1) W1 := by
  obtain ⟨W0, hW0⟩ : ∃ W0, wr.alloc (.cells #[vp, .int .i64 s.b, .int .i64 s.n] 36) = W0 := ⟨_, rfl⟩
  have hN0 : Nw wr W0 := by rw [← hW0]; exact (Fr.refl _ _).alloc _
  have hs0 : W0.heap.size = wr.heap.size + 1 := by rw [← hW0]; simp
  have hsz := hN.size
  have hB0 : Bq wr.heap.size vp s.b s.n W0 := by rw [← hW0]; exact ⟨new_cell _ _ _ _ _ rfl, new_cell _ _ _ _ _ rfl, new_cell _ _ _ _ _ rfl⟩
  rw [hW0]
  generalize hq : wr.heap.size = q at *
  obtain ⟨K, hKd⟩ : ∃ K : Nat → Prop, K = fun k => k < w.heap.size ∨ k = q := ⟨_, rfl⟩
  have hK0 : ∀ k, K k → k < W0.heap.size := fun k hk => by rw [hKd] at hk; rcases hk with hk | hk <;> omega
  have hM0 : Mine K v b W0 := by rw [hKd]; exact (hM.more (fun g hg => by rcases hg with hg | hg; exact .inl hg; exact .inr (by omega))).nw hN0
  have hKq : K q := by rw [hKd]; exact .inr rfl
  have htk : ((16 * min s.p.length 15 + min mm 15 : Nat) : Int) = ((tok s.p.length mm).toNat : Int) := by unfold tok; rw [BitVec.toNat_ofNat]; omega
  obtain ⟨a, c, v1, W1, rfl, HAP1, HN1⟩ := mine_step K b W0 hK0 v hM0 (by omega) (tok s.p.length mm) _ htk
  obtain ⟨hM1, hF1⟩ := HN1.out
  obtain ⟨a1, c1, rfl, _, _⟩ := hM1.sl.form
  have hB1 := hB0.kept hF1 (fun h => h hKq)
  refine ⟨a, _, c, a1, _, c1, W1, rfl, HAP1, hB1, ?_⟩
  have hFw : ∀ {V V' : World}, Nw w V → Fr (fun k => ¬ K k) V V' → Nw w V' := fun h1 h2 => Fr.then h1 h2 (fun k hk => .inr (by rw [hKd] at hk; omega))
  have hw0 : Nw w W0 := hN.trans hN0
  have hu0 : Sl (fun k => w.heap.size ≤ k) vp s.p W0 := hu.nw hN0
  have hel := ext_le s.p.length
  have hel2 := ext_le mm
  have hmn : mm ≤ 10000000 := by
    rcases hmm with h | h <;> omega
  have hKK : ∀ {V : World}, W0.heap.size ≤ V.heap.size → ∀ k, K k → k < V.heap.size := fun h k hk => Nat.lt_of_lt_of_le (hK0 k hk) h
  have hend : ∀ v' W' x, b ++ x = b ++ encP s → Mine K v' (b ++ x) W' → Nw w W' → R v' W' := fun v' W' x e h1 h2 => hR v' W' (by rw [← e]; exact h1.more (fun g hg => .inl (by rw [hKd]; exact .inl hg))) h2
  have hsu : ∀ {V V' : World}, Sl (fun k => w.heap.size ≤ k) vp s.p V → Fr (fun k => ¬ K k) V V' → Sl (fun k => w.heap.size ≤ k) vp s.p V' := fun h1 h2 => h1.kept h2 (fun g hg => by rw [hKd] at hg; omega)
  refine cnum K W1 (hKK hF1.size) _ _ hM1 q vp s.b s.n hB1 hKq s.p.length hpl (by simp only [List.length_append, List.length_cons, List.length_nil]; omega) _ ?_
  intro v2 W2 hM2 hF2 hB2
  refine app_more K W2 (hKK (Nat.le_trans hF1.size hF2.size)) v2 _ hM2 q vp s.b s.n hB2 hKq vp s.p ((hsu (hsu hu0 hF1) hF2).mono (fun _ h => h.elim)) (by simp only [List.length_append, List.length_cons, List.length_nil]; omega) _ ?_
  intro v3 W3 hM3 hF3 hB3
  have hw3 := hFw (hFw (hFw hw0 hF1) hF2) hF3
  by_cases hb0 : s.b = 0
  · rw [if_pos hb0]
    refine hend v3 W3 ([tok s.p.length mm] ++ (ext s.p.length ++ s.p)) ?_ (by simpa only [List.append_assoc] using hM3) hw3
    rcases hmm with ⟨_, rfl⟩ | ⟨h, _⟩
    · unfold encP encL; rw [if_pos hb0]; rfl
    · have := h.1; omega
  · rw [if_neg hb0]
    rcases hmm with ⟨h, _⟩ | ⟨⟨hc1, hc2, hc3⟩, rfl⟩
    · exact absurd h hb0
    refine ctwo K W3 (hKK (Nat.le_trans hF1.size (Nat.le_trans hF2.size hF3.size))) v3 _ hM3 q vp s.b s.n hB3 hKq s.b.toNat (by omega) (by simp only [List.length_append, List.length_cons, List.length_nil]; omega) _ ?_
    intro v4 W4 hM4 hF4 hB4
    refine cnum K W4 (hKK (Nat.le_trans hF1.size (Nat.le_trans hF2.size (Nat.le_trans hF3.size hF4.size)))) v4 _ hM4 q vp s.b s.n hB4 hKq _ hmn (by simp only [List.length_append, List.length_cons, List.length_nil]; omega) _ ?_
    intro v5 W5 hM5 hF5 hB5
    refine hend v5 W5 (encP s) rfl ?_ (hFw (hFw hw3 hF4) hF5)
    have e : b ++ [tok s.p.length (s.n.toNat - 4)] ++ ext s.p.length ++ s.p ++ [BitVec.ofNat 8 (s.b.toNat % 256), BitVec.ofNat 8 (s.b.toNat / 256)] ++ ext (s.n.toNat - 4) = b ++ encP s := by unfold encP encS; rw [if_neg hb0]; simp
    rw [e] at hM5; exact hM5
end Go.Proofs.Ytpnacppmdlnjlaa

import Derived.Test.YtpnacppmdlnjlaaMaM
import Derived.Test.YtpnacppmdlnjlaaMaN
import Derived.Test.YtpnacppmdlnjlaaMaO
import Derived.Test.YtpnacppmdlnjlaaMaQ
import Derived.Test.YtpnacppmdlnjlaaDeA
namespace Go.Proofs.Ytpnacppmdlnjlaa
open Go.RowKit
set_option linter.unusedVariables false
theorem plS_le {ahead : List By} {m : Nat} {s : Si} {st st' : List By} (h : plS (pl ahead m) s st = .ok st') : st'.length ≤ m := by
  unfold plS at h
  by_cases h1 : (pl ahead m).room st s.p.length = false
  · rw [if_pos h1] at h; cases h
  rw [if_neg h1] at h
  have h1' : s.p.length + st.length ≤ m := by simpa [pl] using h1
  by_cases h2 : s.b = 0
  · rw [if_pos h2] at h
    injection h with h
    rw [← h]
    show (st ++ s.p).length ≤ m
    rw [List.length_append]; omega
  rw [if_neg h2] at h
  by_cases h3 : (pl ahead m).reaches ((pl ahead m).plain st s.p) s.b.toNat = false
  · rw [if_pos h3] at h; cases h
  rw [if_neg h3] at h
  by_cases h4 : (pl ahead m).room ((pl ahead m).plain st s.p) s.n.toNat = false
  · rw [if_pos h4] at h; cases h
  rw [if_neg h4] at h
  injection h with h
  have h4' : s.n.toNat + (st ++ s.p).length ≤ m := by
    have : ¬ decide (s.n.toNat + (st ++ s.p).length ≤ m) = false := h4
    simpa using this
  rw [← h]
  show ((cop (ahead ++ (st ++ s.p)) s.b.toNat s.n.toNat).drop ahead.length).length ≤ m
  rw [List.length_drop, cop_length, List.length_append]
  omega
theorem plA_le {ahead : List By} {m : Nat} (l : List Si) : ∀ {st st' : List By}, st.length ≤ m → plA (pl ahead m) l st = .ok st' → st'.length ≤ m := by
  induction l with
  | nil => intro st st' h1 h2; simp only [plA] at h2; injection h2 with h2; rw [← h2]; exact h1
  | cons s r ih =>
    intro st st' h1 h2
    simp only [plA] at h2
    cases hs : plS (pl ahead m) s st with
    | error y => rw [hs] at h2; cases h2
    | ok s1 => rw [hs] at h2; exact ih (plS_le hs) h2
theorem plR_le (l : List Si) (ahead : List By) (most : Int) : (plR l ahead most).1.length ≤ 140737488351232 := by
  unfold plR
  split
  · simp
  · rename_i h
    have : ¬ 4194304 < most := fun h2 => h (.inr (.inl h2))
    cases hp : plA (pl ahead most.toNat) l [] with
    | error y => simp
    | ok s =>
      have := plA_le l (by simp) hp
      show s.length ≤ _
      omega
theorem mkR_le (l : List Si) : (mkR l).1.length ≤ 140737488351232 := by
  by_cases h : CanB l
  · by_cases h2 : tot l ≤ 4194304
    · rw [mkR_ok h h2]
      have h3 := mkI_le h l.length (Nat.le_refl _)
      have h4 := h.count l.length (Nat.le_refl _)
      rw [List.take_length] at h3 h4
      show (mkI l).length ≤ _
      omega
    · rw [mkR_long h h2]; simp
  · rw [mkR_arg h]; simp
theorem mkR_one : mkR [⟨[], 0, 0⟩] = ([0#8], 0) := by
  have hc : CanB [⟨[], 0, 0⟩] := ⟨by simp, fun i h => by simp at h, fun h => by simp⟩
  rw [mkR_ok hc (by simp [tot])]
  simp [mkI, encP, encL, ext, tok]
theorem one_seq (w : World) : OldS (w.alloc (.cells #[.slice none 0 0, .int .i64 0, .int .i64 0] 36)) (.slice (some ⟨w.heap.size, 0, none⟩) 1 1) [⟨[], 0, 0⟩] := by
  refine ⟨_, _, rfl, by simp, by decide, by simp, fun _ => ⟨w.heap.size, 0, by simp, rfl, fun i hi => ?_⟩⟩
  obtain rfl : i = 0 := by simp at hi; exact hi
  exact ⟨none, 0, new_cell _ _ _ _ _ rfl, new_cell _ _ _ _ _ rfl, new_cell _ _ _ _ _ rfl, .inl ⟨none, rfl, rfl⟩, by simp⟩
/-- A call that writes over one's own slice changes that slice's block alone. -/
theorem full_own (V : World) (K : Nat → Prop) (v : Value) (R : List By) (h : Mine K v R V) (hR : R.length ≤ 140737488351232) (X : Nat → Prop) (hX : ∀ K' : Nat → Prop, (∀ k, K' k → ¬ X k) → Mine K' v R V) (x : By) :
    Calls Try.prog 14 #[v, .int .u8 x.toNat] V fun e w' => (∃ r, e = .returned r) ∧ Fr X V w' := by
  refine (full_any (fun k => k < V.heap.size ∧ ¬ X k) V (fun k hk => hk.1) _ R (hX _ (fun k hk => hk.2)) hR x).mono ?_
  rintro e w' ⟨hr, hF⟩
  refine ⟨hr, hF.mono (fun k hk => ?_)⟩
  by_cases hkX : X k
  · exact .inl hkX
  · refine .inr ?_
    by_cases hlt : k < V.heap.size
    · exact absurd ⟨hlt, hkX⟩ hk
    · omega
set_option maxHeartbeats 4000000 in
theorem chainM (w : World) (v va : Value) (l : List Si) (ahead : List By) (most : Int) (hl : OldS w v l) (hp : ∀ s ∈ l, s.p.length ≤ 140737488351232) (ha : Old w va ahead) (hal : ahead.length ≤ 140737488351232) (M : List By) (me : Nat) (hM : mkR l = (M, me)) (Y : List By) (ye : Nat) (hY : plR l ahead most = (Y, ye)) :
    Hid (Calls Try.prog 18 #[v] w fun e w1 => ∃ g1 c1, e = .returned (.slice (some ⟨g1, 0, none⟩) l.length c1) ∧ Hid (Calls Try.prog 9 #[va] w1 fun e w2 => ∃ g2 c2, e = .returned (.tuple #[.slice (some ⟨g2, 0, none⟩) ahead.length c2, .slice (some ⟨g2, 0, none⟩) (ahead.length + 32) c2]) ∧ Hid (Calls Try.prog 19 #[.slice (some ⟨g1, 0, none⟩) l.length c1] w2 fun e w3 => ∃ a3 c3, e = .returned (.tuple #[.slice a3 M.length c3, .int .i64 me]) ∧ Hid (Calls Try.prog 20 #[v] w3 fun e w4 => ∃ a4 c4, e = .returned (.tuple #[.slice a4 M.length c4, .int .i64 me]) ∧ Hid (Calls Try.prog 21 #[.slice (some ⟨g1, 0, none⟩) l.length c1, .slice (some ⟨g2, 0, none⟩) ahead.length c2, .int .i64 most] w4 fun e w5 => ∃ a5 c5, e = .returned (.tuple #[.slice a5 Y.length c5, .int .i64 ye]) ∧ Hid (Calls Try.prog 22 #[v, va, .int .i64 most] w5 fun e w6 => ∃ a6 c6, e = .returned (.tuple #[.slice a6 Y.length c6, .int .i64 ye]) ∧ Hid (∀ V, Nw w6 V → Calls Try.prog 12 #[.slice a3 M.length c3, .slice a4 M.length c4] V fun e w' => e = .returned (.bool true) ∧ Nw w6 w') ∧ Hid (∀ V, Nw w6 V → Calls Try.prog 12 #[.slice a5 Y.length c5, .slice a6 Y.length c6] V fun e w' => e = .returned (.bool true) ∧ Nw w6 w') ∧ Hid (∀ V, Nw w6 V → Calls Try.prog 17 #[.slice (some ⟨g1, 0, none⟩) l.length c1, v] V fun e w' => e = .returned (.bool true) ∧ Nw w6 w') ∧ Hid (∀ V, Nw w6 V → Calls Try.prog 13 #[.slice (some ⟨g2, 0, none⟩) (ahead.length + 32) c2, va] V fun e w' => e = .returned (.bool true) ∧ Nw w6 w') ∧ Hid (∀ V, Nw w6 V → Calls Try.prog 14 #[.slice a3 M.length c3, .int .u8 4] V fun e w7 => (∃ r, e = .returned r) ∧ Hid (Calls Try.prog 14 #[.slice a5 Y.length c5, .int .u8 5] w7 fun e w8 => (∃ r, e = .returned r) ∧ Hid (Calls Try.prog 19 #[.slice (some ⟨w8.heap.size, 0, none⟩) 1 1] (w8.alloc (.cells #[.slice none 0 0, .int .i64 0, .int .i64 0] 36)) fun e w9 => ∃ a9 c9, e = .returned (.tuple #[.slice a9 1 c9, .int .i64 0]) ∧ Hid (∀ V, Nw w9 V → Calls Try.prog 17 #[.slice (some ⟨g1, 0, none⟩) l.length c1, v] V fun e w' => e = .returned (.bool true) ∧ Nw w9 w') ∧ Hid (∀ V, Nw w9 V → Calls Try.prog 13 #[.slice (some ⟨g2, 0, none⟩) (ahead.length + 32) c2, va] V fun e w' => e = .returned (.bool true) ∧ Nw w9 w') ∧ Hid (Nw w w9)))))))))) := by
  have hMl := mkR_le l
  rw [hM] at hMl
  have hYl := plR_le l ahead most
  rw [hY] at hYl
  show Calls _ _ _ _ _
  refine (copies_any w v l hl hp).mono ?_
  rintro e w1 ⟨g1, c1, rfl, hS1, hN1⟩
  refine ⟨g1, c1, rfl, ?_⟩
  show Calls _ _ _ _ _
  refine (lent_any w1 va ahead (Sl.later ha hN1) hal).mono ?_
  rintro e w2 ⟨g2, c2, rfl, hg2, hO2, hN2⟩
  refine ⟨g2, c2, rfl, ?_⟩
  have hg2l := hO2.lt
  have oldS : ∀ {X : Nat → Prop} {v w V}, SqR X v l w → Nw w V → (∀ k, V.heap.size ≤ k → X k) → OldS V v l := fun h hN hX => (h.nw hN).mono hX
  have hs1 := hN1.size
  have hs2 := hN2.size
  have hd2 : Old w2 (.slice (some ⟨g2, 0, none⟩) ahead.length c2) ahead := by
    obtain ⟨c', e, h1, h2, h3⟩ := hO2.cut ahead.length (by rw [List.length_append]; omega)
    injection e with _ _ e
    subst e
    rw [List.take_left] at h3
    exact h3.old
  show Calls _ _ _ _ _
  refine (lzMake_any w2 _ l (oldS hS1 hN2 (fun k hk => .inr (by omega)))).mono ?_
  rw [hM]
  rintro e w3 ⟨a3, c3, rfl, hM3, hN3⟩
  refine ⟨a3, c3, rfl, ?_⟩
  have hs3 := hN3.size
  have hw3 : Nw w w3 := (hN1.trans hN2).trans hN3
  show Calls _ _ _ _ _
  refine (rMake_any w3 v l (oldS hl hw3 (fun k hk => by omega))).mono ?_
  rw [hM]
  rintro e w4 ⟨a4, c4, rfl, hM4, hN4⟩
  refine ⟨a4, c4, rfl, ?_⟩
  have hs4 := hN4.size
  have hw4 := hw3.trans hN4
  show Calls _ _ _ _ _
  refine (lzPlay_any w4 _ _ l ahead most (oldS hS1 ((hN2.trans hN3).trans hN4) (fun k hk => .inr (by omega))) (Sl.later hd2 (hN3.trans hN4)) hal).mono ?_
  rw [hY]
  rintro e w5 ⟨a5, c5, rfl, hM5, hN5⟩
  refine ⟨a5, c5, rfl, ?_⟩
  have hs5 := hN5.size
  have hw5 := hw4.trans hN5
  show Calls _ _ _ _ _
  refine (rPlay_any w5 v va l ahead most (oldS hl hw5 (fun k hk => by omega)) (Sl.later ha hw5) hal).mono ?_
  rw [hY]
  rintro e w6 ⟨a6, c6, rfl, hS6, hN6⟩
  have hs6 := hN6.size
  have hw6 := hw5.trans hN6
  have base : ∀ {f args V w5 v}, Nw w5 V → (Calls Try.prog f args V fun e w' => e = .returned v ∧ Nw V w') → Calls Try.prog f args V fun e w' => e = .returned v ∧ Nw w5 w' := fun hV h => cbase hV h
  have hsame : ∀ {w5 v1 v2 R}, R.length ≤ 140737488351232 → Sl (fun _ => False) v1 R w5 → Sl (fun _ => False) v2 R w5 → ∀ V, Nw w5 V → Calls Try.prog 12 #[v1, v2] V fun e w' => e = .returned (.bool true) ∧ Nw w5 w' := by
    intro w5 v1 v2 R hR h1 h2 V hV
    have := same_any V v1 v2 R R (h1.nw hV) (h2.nw hV) hR hR
    rw [decide_eq_true rfl] at this
    exact base hV this
  have F : ∀ {X : Nat → Prop} {v l w}, Sl X v l w → Sl (fun _ => False) v l w := fun h => h.mono (fun _ h => h.elim)
  have h26 : Nw w2 w6 := ((hN3.trans hN4).trans hN5).trans hN6
  have hO2' : Ow g2 (.slice (some ⟨g2, 0, none⟩) (ahead.length + 32) c2) (ahead ++ marks 32) w6 := hO2.nw h26
  have hS1' : SqR (fun k => k < w.heap.size ∨ w1.heap.size ≤ k) (.slice (some ⟨g1, 0, none⟩) l.length c1) l w6 := hS1.nw (hN2.trans h26)
  have hl' := hl.nw hw6
  refine ⟨a6, c6, rfl, hsame hMl (F (((hM3.nw hN4).nw hN5).nw hN6).sl) (F ((hM4.nw hN5).nw hN6).sl), hsame hYl (F (hM5.nw hN6).sl) (F hS6), fun V hV => base hV (seqs_two V _ _ _ _ l (hS1'.nw hV) (hl'.nw hV)), fun V hV => base hV (kept_any V g2 c2 va ahead (hO2'.nw hV) (F (ha.nw (hw6.trans hV))) hal), ?_⟩
  intro V hV
  have hsV := hV.size
  obtain ⟨X3, hX3, hXm3⟩ := hM3.block
  obtain ⟨X5, hX5, hXm5⟩ := hM5.block
  have hX3l : ∀ k, X3 k → w2.heap.size ≤ k ∧ k < w3.heap.size := fun k hk => ⟨by have := (hX3 k hk).1; omega, (hX3 k hk).2⟩
  have hX5l : ∀ k, X5 k → w4.heap.size ≤ k ∧ k < w5.heap.size := fun k hk => ⟨by have := (hX5 k hk).1; omega, (hX5 k hk).2⟩
  have h3V : Nw w3 V := ((hN4.trans hN5).trans hN6).trans hV
  have h5V : Nw w5 V := hN6.trans hV
  refine (full_own V _ _ M (hM3.nw h3V) hMl X3 (fun K' hK' => (hXm3 K' hK').nw h3V) 4#8).mono ?_
  rintro e w7 ⟨hr7, hF7⟩
  refine ⟨hr7, ?_⟩
  have hs7 := hF7.size
  have keep5 : ∀ K', (∀ k, K' k → ¬ X5 k) → Mine K' (.slice a5 Y.length c5) Y w7 := fun K' hK' => by
    have h := hXm5 (fun k => ¬ X5 k) (fun k hk => hk)
    rcases h with ⟨h1, h2⟩ | ⟨g, hg, hO⟩
    · exact .inl ⟨h1, h2⟩
    · have hg' : X5 g := Classical.not_not.1 hg
      exact .inr ⟨g, fun hk => hK' g hk hg', (hO.nw h5V).kept hF7 (fun h3 => by have := (hX3l g h3).2; have := (hX5l g hg').1; omega)⟩
  show Calls _ _ _ _ _
  refine (full_own w7 _ _ Y (keep5 (fun k => False) (fun k hk => hk.elim)) hYl X5 keep5 5#8).mono ?_
  rintro e w8 ⟨hr8, hF8⟩
  refine ⟨hr8, ?_⟩
  have hs8 := hF8.size
  have hF78 : Fr (fun k => X3 k ∨ X5 k) V w8 := (hF7.mono (fun k hk => .inl (.inl hk))).trans (hF8.mono (fun k hk => .inl (.inr hk)))
  have hNw8 : Nw w w8 := Fr.then (hw6.trans hV) hF78 (fun k hk => .inr (by rcases hk with hk | hk; have := (hX3l k hk).1; omega; have := (hX5l k hk).1; omega))
  have hA : Nw w8 (w8.alloc (.cells #[.slice none 0 0, .int .i64 0, .int .i64 0] 36)) := (Fr.refl _ _).alloc _
  show Calls _ _ _ _ _
  refine (lzMake_any _ _ _ (one_seq w8)).mono ?_
  rw [mkR_one]
  rintro e w9 ⟨a9, c9, rfl, hM9, hN9⟩
  have h89 := hA.trans hN9
  have hF9 : Fr (fun k => X3 k ∨ X5 k) V w9 := hF78.trans h89.any
  have hw9 := hNw8.trans h89
  refine ⟨a9, c9, rfl, ?_, ?_, hw9⟩
  · intro U hU
    refine base hU (seqs_two U _ _ _ _ l (SqR.nw ((hS1'.nw hV).kept hF9 ?_) hU) (hl.nw (hw9.trans hU)))
    intro k hk
    rcases hk with hk | hk
    · have := (hX3l k hk).1; exact .inr (by omega)
    · have := (hX5l k hk).1; exact .inr (by omega)
  · intro U hU
    refine base hU (kept_any U g2 c2 va ahead (((hO2'.nw hV).kept hF9 ?_).nw hU) (F (ha.nw (hw9.trans hU))) hal)
    intro hk
    rcases hk with hk | hk
    · have := (hX3l g2 hk).1; omega
    · have := (hX5l g2 hk).1; omega
end Go.Proofs.Ytpnacppmdlnjlaa

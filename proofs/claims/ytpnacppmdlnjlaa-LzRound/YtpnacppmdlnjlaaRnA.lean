import Derived.Test.YtpnacppmdlnjlaaEnJ
import Derived.Test.YtpnacppmdlnjlaaEnK
import Derived.Test.YtpnacppmdlnjlaaPaS
import Derived.Test.YtpnacppmdlnjlaaDeA
namespace Go.Proofs.Ytpnacppmdlnjlaa
open Go.RowKit
set_option linter.unusedVariables false
/-- A call that writes over one's own slice changes that slice's block alone. -/
theorem full_its (V : World) (K : Nat → Prop) (v : Value) (R : List By) (h : Mine K v R V) (hR : R.length ≤ 140737488351232) (X : Nat → Prop) (hX : ∀ K' : Nat → Prop, (∀ k, K' k → ¬ X k) → Mine K' v R V) (x : By) :
    Calls Try.prog 14 #[v, .int .u8 x.toNat] V fun e w' => (∃ r, e = .returned r) ∧ Fr X V w' := by
  refine (full_any (fun k => k < V.heap.size ∧ ¬ X k) V (fun k hk => hk.1) _ R (hX _ (fun k hk => hk.2)) hR x).mono ?_
  rintro e w' ⟨hr, hF⟩
  refine ⟨hr, hF.mono (fun k hk => ?_)⟩
  by_cases hkX : X k
  · exact .inl hkX
  · refine .inr ?_
    by_cases hlt : k < V.heap.size
    · exact absurd ⟨hlt, hkX⟩ hk
    · omega
/-- A copy of bytes in new memory. -/
theorem fresh_copy (w : World) (x : Value) (p : List By) (hx : Sl (fun k => w.heap.size ≤ k) x p w) (hl : p.length ≤ 140737488351232) :
    ∃ a c W, Hid (∀ ty, (Builtin.append_ #[22, 22] ty #[.slice (some ⟨w.heap.size, 0, none⟩) 0 0, x]).run Try.prog (w.alloc (.cells #[] 5)) = .ok (.slice a p.length c) W) ∧ Mine (fun k => k < w.heap.size) (.slice a p.length c) p W ∧ Nw w W := by
  have hA : Nw w (w.alloc (.cells #[] 5)) := (Fr.refl _ _).alloc _
  obtain ⟨v', g', W, k1, k2, k3, k4⟩ := app_any (w.alloc (.cells #[] 5)) w.heap.size _ [] (Ow.empty w) x p ((hx.nw hA).mono (fun _ h => h.elim)) (by simp; omega)
  rw [List.nil_append] at k2
  have k2' := k2
  obtain ⟨xs, rfl, _⟩ := k2'
  refine ⟨_, _, W, k1, .inr ⟨g', ?_, k2⟩, Fr.then hA k3 (fun i hi => .inr (by omega))⟩
  rcases k4 with h | h
  · omega
  · simp at h; omega
theorem bnd_nat (n : Nat) (h : n ≤ 4194304) : bnd n = ((n + n / 255 + 16 : Nat) : Int) := by
  unfold bnd
  rw [if_neg (by omega)]
  have : Int.tdiv (n : Int) 255 = ((n / 255 : Nat) : Int) := rfl
  rw [this]; omega
theorem ext_ge (n : Nat) : n ≤ 255 * (ext n).length + 15 := by
  unfold ext
  split
  · omega
  · unfold numb; simp only [List.length_append, List.length_replicate, List.length_cons, List.length_nil]; omega
theorem flat_le (ms : List Sq) (s : Sq) (hs : s ∈ ms) : (encS s).length ≤ (ms.flatMap encS).length := by
  induction ms with
  | nil => simp at hs
  | cons x r ih =>
    rw [List.flatMap_cons, List.length_append]
    rcases List.mem_cons.1 hs with rfl | hs
    · omega
    · have := ih hs; omega
theorem flat_len (ms : List Sq) : ms.length ≤ (ms.flatMap encS).length := by
  induction ms with
  | nil => simp
  | cons x r ih =>
    rw [List.flatMap_cons, List.length_append, List.length_cons]
    have : 1 ≤ (encS x).length := by unfold encS; simp
    omega
theorem mk_bounds (ms : List Sq) (q : List By) : ms.length ≤ (mk ms q).length ∧ q.length ≤ (mk ms q).length ∧ ∀ s ∈ ms, s.n ≤ 255 * (mk ms q).length + 100 := by
  have h0 := flat_len ms
  unfold mk
  rw [List.length_append]
  refine ⟨by omega, by unfold encL; simp only [List.length_cons, List.length_append]; omega, fun s hs => ?_⟩
  have h1 := flat_le ms s hs
  have h2 := ext_ge (s.n - 4)
  have h3 : (ext (s.n - 4)).length ≤ (encS s).length := by unfold encS; simp only [List.length_cons, List.length_append]; omega
  omega
set_option maxHeartbeats 8000000 in
theorem chainR (w : World) (vp va : Value) (p ahead : List By) (hp : Old w vp p) (ha : Old w va ahead) (hpl : p.length ≤ 4194304) (hal : ahead.length ≤ 140737488351232) :
    Hid (Calls Try.prog 9 #[vp] w fun e w1 => ∃ g1 c1, e = .returned (.tuple #[.slice (some ⟨g1, 0, none⟩) p.length c1, .slice (some ⟨g1, 0, none⟩) (p.length + 32) c1]) ∧ Hid (Calls Try.prog 9 #[va] w1 fun e w2 => ∃ g2 c2, e = .returned (.tuple #[.slice (some ⟨g2, 0, none⟩) ahead.length c2, .slice (some ⟨g2, 0, none⟩) (ahead.length + 32) c2]) ∧ Hid (Calls Try.prog 23 #[.slice (some ⟨g1, 0, none⟩) p.length c1, .slice (some ⟨g2, 0, none⟩) ahead.length c2] w2 fun e w3 => ∃ a3 bl c3, e = .returned (.tuple #[.slice a3 bl c3, .int .i64 0]) ∧ bl ≤ p.length + p.length / 255 + 16 ∧ Hid (Calls Try.prog 16 #[.slice a3 bl c3] w3 fun e w4 => ∃ a4 l4 c4 : _, ∃ z4 : Int, e = .returned (.tuple #[.slice a4 l4 c4, .int .i64 z4, .int .i64 0]) ∧
      Hid (∀ V, Nw w4 V → Calls Try.prog 24 #[.slice a4 l4 c4] V fun e w' => e = .returned (.bool true) ∧ Nw w4 w') ∧
      Hid (∀ V, Nw w4 V → Calls Try.prog 13 #[.slice (some ⟨g1, 0, none⟩) (p.length + 32) c1, vp] V fun e w' => e = .returned (.bool true) ∧ Nw w4 w') ∧
      Hid (∀ V, Nw w4 V → Calls Try.prog 13 #[.slice (some ⟨g2, 0, none⟩) (ahead.length + 32) c2, va] V fun e w' => e = .returned (.bool true) ∧ Nw w4 w') ∧
      Hid (∀ V, Nw w4 V → Calls Try.prog 11 #[.slice a3 bl c3, va, .int .i64 p.length] V fun e w5 => ∃ a5 c5, ∃ z5 : Int, e = .returned (.tuple #[.slice a5 p.length c5, .int .i64 z5, .int .i64 0]) ∧ ∃ a6 c6 W6, Hid (∀ ty, (Builtin.append_ #[22, 22] ty #[.slice (some ⟨w5.heap.size, 0, none⟩) 0 0, .slice a3 bl c3]).run Try.prog (w5.alloc (.cells #[] 5)) = .ok (.slice a6 bl c6) W6) ∧ Hid (Calls Try.prog 10 #[.slice a6 bl c6, .slice (some ⟨g2, 0, none⟩) ahead.length c2, .int .i64 p.length] W6 fun e w7 => ∃ a7 c7, ∃ z7 : Int, e = .returned (.tuple #[.slice a7 p.length c7, .int .i64 z7, .int .i64 0]) ∧
        Hid (∀ V, Nw w7 V → Calls Try.prog 12 #[.slice a5 p.length c5, vp] V fun e w' => e = .returned (.bool true) ∧ Nw w7 w') ∧
        Hid (∀ V, Nw w7 V → Calls Try.prog 12 #[.slice a7 p.length c7, vp] V fun e w' => e = .returned (.bool true) ∧ Nw w7 w') ∧
        Hid (∀ V, Nw w7 V → Calls Try.prog 23 #[.slice (some ⟨g1, 0, none⟩) p.length c1, .slice (some ⟨g2, 0, none⟩) ahead.length c2] V fun e w8 => ∃ a8 c8, e = .returned (.tuple #[.slice a8 bl c8, .int .i64 0]) ∧ ∃ a9 c9 W9, Hid (∀ ty, (Builtin.append_ #[22, 22] ty #[.slice (some ⟨w8.heap.size, 0, none⟩) 0 0, .slice a3 bl c3]).run Try.prog (w8.alloc (.cells #[] 5)) = .ok (.slice a9 bl c9) W9) ∧ Hid (Calls Try.prog 14 #[.slice a3 bl c3, .int .u8 6] W9 fun e w10 => (∃ r, e = .returned r) ∧
          Hid (∀ V, Nw w10 V → Calls Try.prog 12 #[.slice a8 bl c8, .slice a9 bl c9] V fun e w' => e = .returned (.bool true) ∧ Nw w10 w') ∧
          Hid (∀ V, Nw w10 V → Calls Try.prog 13 #[.slice (some ⟨g1, 0, none⟩) (p.length + 32) c1, vp] V fun e w' => e = .returned (.bool true) ∧ Nw w10 w') ∧
          Hid (∀ V, Nw w10 V → Calls Try.prog 13 #[.slice (some ⟨g2, 0, none⟩) (ahead.length + 32) c2, va] V fun e w' => e = .returned (.bool true) ∧ Nw w10 w') ∧ Hid (Nw w w10))))))))) := by
  have hpl' : p.length ≤ 140737488351232 := by omega
  show Calls _ _ _ _ _
  refine (lent_any w vp p hp hpl').mono ?_
  rintro e w1 ⟨g1, c1, rfl, hg1, hO1, hN1⟩
  refine ⟨g1, c1, rfl, ?_⟩
  show Calls _ _ _ _ _
  refine (lent_any w1 va ahead (Sl.later ha hN1) hal).mono ?_
  rintro e w2 ⟨g2, c2, rfl, hg2, hO2, hN2⟩
  refine ⟨g2, c2, rfl, ?_⟩
  have hg1l := hO1.lt
  have hg2l := hO2.lt
  have hs1 := hN1.size
  have hs2 := hN2.size
  have cut : ∀ {g c l w} (l0 : List By) (n : Nat), l = l0 ++ marks 32 → n = l0.length → Ow g (.slice (some ⟨g, 0, none⟩) (n + 32) c) l w → Old w (.slice (some ⟨g, 0, none⟩) n c) l0 := by
    intro g c l w l0 n hl hn h
    subst hl hn
    obtain ⟨c', e, h1, h2, h3⟩ := h.cut l0.length (by rw [List.length_append]; omega)
    injection e with _ _ e
    subst e
    rw [List.take_left] at h3
    exact h3.old
  have hc2 : Old w2 (.slice (some ⟨g1, 0, none⟩) p.length c1) p := cut p _ rfl rfl (hO1.nw hN2)
  have hd2 : Old w2 (.slice (some ⟨g2, 0, none⟩) ahead.length c2) ahead := cut ahead _ rfl rfl hO2
  show Calls _ _ _ _ _
  refine (Encode_any w2 _ _ p ahead hc2 hd2 hpl hal).mono ?_
  rintro e w3 ⟨a3, c3, B, rfl, hB, hM3, hN3⟩
  have hBl := hB.bound
  refine ⟨a3, B.length, c3, rfl, hBl, ?_⟩
  have hs3 := hN3.size
  have hw3 : Nw w w3 := (hN1.trans hN2).trans hN3
  have hB3 : Old w3 (.slice a3 B.length c3) B := hM3.old
  obtain ⟨ms, q, hmk, hpa, hend⟩ := hB.parse
  have hpb := mk_bounds ms q
  rw [← hmk] at hpb
  show Calls _ _ _ _ _
  refine (rParse_any w3 _ B hB3 (by omega)).mono ?_
  rw [hpa]
  rintro e w4 ⟨a4, c4, gs, qs, rfl, hS4, hN4⟩
  have hs4 := hN4.size
  have hw4 := hw3.trans hN4
  have base : ∀ {f args V w5 v}, Nw w5 V → (Calls Try.prog f args V fun e w' => e = .returned v ∧ Nw V w') → Calls Try.prog f args V fun e w' => e = .returned v ∧ Nw w5 w' := fun hV h => cbase hV h
  have hsame : ∀ {w5 v1 v2 R}, R.length ≤ 140737488351232 → Sl (fun _ => False) v1 R w5 → Sl (fun _ => False) v2 R w5 → ∀ V, Nw w5 V → Calls Try.prog 12 #[v1, v2] V fun e w' => e = .returned (.bool true) ∧ Nw w5 w' := by
    intro w5 v1 v2 R hR h1 h2 V hV
    have := same_any V v1 v2 R R (h1.nw hV) (h2.nw hV) hR hR
    rw [decide_eq_true rfl] at this
    exact base hV this
  have F : ∀ {X : Nat → Prop} {v l w}, Sl X v l w → Sl (fun _ => False) v l w := fun h => h.mono (fun _ h => h.elim)
  have h24 : Nw w2 w4 := hN3.trans hN4
  have hO1' : Ow g1 (.slice (some ⟨g1, 0, none⟩) (p.length + 32) c1) (p ++ marks 32) w4 := (hO1.nw hN2).nw h24
  have hO2' : Ow g2 (.slice (some ⟨g2, 0, none⟩) (ahead.length + 32) c2) (ahead ++ marks 32) w4 := hO2.nw h24
  have hlm : ms.length ≤ 100000000 := by have := hpb.1; omega
  have hql : q.length ≤ 100000000 := by have := hpb.2.1; omega
  refine ⟨a4, _, c4, _, rfl, ?_, ?_, ?_, ?_⟩
  · intro V hV
    refine base hV (ends_any V _ _ ms q gs qs (hS4.nw hV) hlm hql (fun s hs => ?_) hend)
    have := hpb.2.2 s hs
    omega
  · exact fun V hV => base hV (kept_any V g1 c1 vp p (hO1'.nw hV) (F (hp.nw (hw4.trans hV))) hpl')
  · exact fun V hV => base hV (kept_any V g2 c2 va ahead (hO2'.nw hV) (F (ha.nw (hw4.trans hV))) hal)
  · intro V hV
    have hwV := hw4.trans hV
    have hBV : Old V (.slice a3 B.length c3) B := Sl.later hB3 (hN4.trans hV)
    refine (rDecode_any V _ _ B ahead p.length hBV (Sl.later ha hwV) (by omega) hal).mono ?_
    rw [hB.dec hpl]
    rintro e w5 ⟨a5, c5, rfl, hS5, hN5⟩
    have hsV := hV.size
    have hs5 := hN5.size
    obtain ⟨a6, c6, W6, hap6, hM6, hN6⟩ := fresh_copy w5 (.slice a3 B.length c3) B (Sl.later hBV hN5) (by omega)
    have hs6 := hN6.size
    refine ⟨a5, c5, _, rfl, a6, c6, W6, hap6, ?_⟩
    have h26 : Nw w2 W6 := ((h24.trans hV).trans hN5).trans hN6
    show Calls _ _ _ _ _
    refine (decode_any W6 _ _ B ahead p.length hM6.old (Sl.later hd2 h26) (by omega) hal).mono ?_
    rw [hB.dec hpl]
    rintro e w7 ⟨a7, c7, rfl, hM7, hN7⟩
    have hs7 := hN7.size
    have h27 : Nw w2 w7 := h26.trans hN7
    have hw7 : Nw w w7 := ((hwV.trans hN5).trans hN6).trans hN7
    refine ⟨a7, c7, _, rfl, hsame hpl' (F ((hS5.nw hN6).nw hN7)) (F (hp.nw hw7)), hsame hpl' (F hM7.sl) (F (hp.nw hw7)), ?_⟩
    intro U hU
    have hsU := hU.size
    refine (Encode_any U _ _ p ahead (Sl.later hc2 (h27.trans hU)) (Sl.later hd2 (h27.trans hU)) hpl hal).mono ?_
    rintro e w8 ⟨a8, c8, B', rfl, hB', hM8, hN8⟩
    obtain rfl := hB.uniq hB'
    have hs8 := hN8.size
    have h38 : Nw w3 w8 := (((((hN4.trans hV).trans hN5).trans hN6).trans hN7).trans hU).trans hN8
    obtain ⟨a9, c9, W9, hap9, hM9, hN9⟩ := fresh_copy w8 (.slice a3 B.length c3) B (Sl.later hB3 h38) (by omega)
    refine ⟨a8, c8, rfl, a9, c9, W9, hap9, ?_⟩
    have hs9 := hN9.size
    obtain ⟨X3, hX3, hXm3⟩ := hM3.block
    have hX3l : ∀ k, X3 k → w2.heap.size ≤ k ∧ k < w3.heap.size := fun k hk => ⟨by have := (hX3 k hk).1; omega, (hX3 k hk).2⟩
    have h39 : Nw w3 W9 := h38.trans hN9
    have hs38 := h38.size
    have h3U : w3.heap.size ≤ U.heap.size := by omega
    show Calls _ _ _ _ _
    refine (full_its W9 _ _ B (hM3.nw h39) (by omega) X3 (fun K' hK' => (hXm3 K' hK').nw h39) 6#8).mono ?_
    rintro e w10 ⟨hr, hF10⟩
    have hNw10 : Nw w w10 := Fr.then (hw3.trans h39) hF10 (fun k hk => .inr (by have := (hX3l k hk).1; omega))
    refine ⟨hr, ?_, ?_, ?_, hNw10⟩
    · refine hsame (R := B) (by omega) ?_ ?_
      · exact F (((hM8.nw hN9).kept hF10 (fun k hk => .inl (by have := (hX3l k hk).2; omega))).sl)
      · exact F ((hM9.kept hF10 (fun k hk => .inl (by have := (hX3l k hk).2; omega))).sl)
    · intro Z hZ
      refine base hZ (kept_any Z g1 c1 vp p (Ow.nw (((hO1.nw hN2).nw (hN3.trans h39)).kept hF10 (fun hk => by have := (hX3l g1 hk).1; omega)) hZ) (F (hp.nw (hNw10.trans hZ))) hpl')
    · intro Z hZ
      refine base hZ (kept_any Z g2 c2 va ahead (Ow.nw ((hO2.nw (hN3.trans h39)).kept hF10 (fun hk => by have := (hX3l g2 hk).1; omega)) hZ) (F (ha.nw (hNw10.trans hZ))) hal)
end Go.Proofs.Ytpnacppmdlnjlaa

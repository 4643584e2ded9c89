import Derived.Test.YtpnacppmdlnjlaaLzW
import Derived.Test.YtpnacppmdlnjlaaLzC2
import Derived.Test.YtpnacppmdlnjlaaLzQ
import Derived.Test.YtpnacppmdlnjlaaLzZ
namespace Go.Proofs.Ytpnacppmdlnjlaa
open Go.RowKit
set_option linter.unusedVariables false
/-- The block that a slice of one's own lies in, if any. -/
theorem Mine.block {K : Nat → Prop} {v : Value} {l : List By} {w : World} (h : Mine K v l w) : ∃ X : Nat → Prop, (∀ k, X k → ¬ K k ∧ k < w.heap.size) ∧ ∀ K' : Nat → Prop, (∀ k, K' k → ¬ X k) → Mine K' v l w := by
  rcases h with h | ⟨g, hg, hO⟩
  · exact ⟨fun _ => False, fun k h => h.elim, fun K' _ => .inl h⟩
  · exact ⟨fun k => k = g, fun k hk => by subst hk; exact ⟨hg, hO.lt⟩, fun K' hk => .inr ⟨g, fun hg' => hk g hg' rfl, hO⟩⟩
theorem dec_one : dec [16#8, 97#8] [] 1 = ([97#8], 0, 0) := by
  simp [dec, scanS_cons, plainS, num, pl]
theorem dec_le (b ahead : List By) (most : Int) : (dec b ahead most).1.length ≤ 140737488351232 := by
  have := (dec_bound b ahead most).1
  omega
set_option maxHeartbeats 4000000 in
theorem chain (w : World) (vb va : Value) (b ahead : List By) (most : Int) (hb : Old w vb b) (ha : Old w va ahead) (hbl : b.length ≤ 140737488351232) (hal : ahead.length ≤ 140737488351232) (R : List By) (at' why : Nat) (hdec : dec b ahead most = (R, at', why)) (hRl : R.length ≤ 140737488351232) :
    Hid (Calls Try.prog 9 #[vb] w fun e w1 => ∃ g1 c1, e = .returned (.tuple #[.slice (some ⟨g1, 0, none⟩) b.length c1, .slice (some ⟨g1, 0, none⟩) (b.length + 32) c1]) ∧ Hid (Calls Try.prog 9 #[va] w1 fun e w2 => ∃ g2 c2, e = .returned (.tuple #[.slice (some ⟨g2, 0, none⟩) ahead.length c2, .slice (some ⟨g2, 0, none⟩) (ahead.length + 32) c2]) ∧ Hid (Calls Try.prog 10 #[.slice (some ⟨g1, 0, none⟩) b.length c1, .slice (some ⟨g2, 0, none⟩) ahead.length c2, .int .i64 most] w2 fun e w3 => ∃ a3 c3, e = .returned (.tuple #[.slice a3 R.length c3, .int .i64 at', .int .i64 why]) ∧ Hid (Calls Try.prog 10 #[.slice (some ⟨g1, 0, none⟩) b.length c1, .slice (some ⟨g2, 0, none⟩) ahead.length c2, .int .i64 most] w3 fun e w4 => ∃ a4 c4, e = .returned (.tuple #[.slice a4 R.length c4, .int .i64 at', .int .i64 why]) ∧ Hid (Calls Try.prog 11 #[vb, va, .int .i64 most] w4 fun e w5 => ∃ a5 c5, e = .returned (.tuple #[.slice a5 R.length c5, .int .i64 at', .int .i64 why]) ∧ Hid (∀ V, Nw w5 V → Calls Try.prog 12 #[.slice a3 R.length c3, .slice a5 R.length c5] V fun e w' => e = .returned (.bool true) ∧ Nw w5 w') ∧ Hid (∀ V, Nw w5 V → Calls Try.prog 12 #[.slice a4 R.length c4, .slice a5 R.length c5] V fun e w' => e = .returned (.bool true) ∧ Nw w5 w') ∧ Hid (∀ V, Nw w5 V → Calls Try.prog 13 #[.slice (some ⟨g1, 0, none⟩) (b.length + 32) c1, vb] V fun e w' => e = .returned (.bool true) ∧ Nw w5 w') ∧ Hid (∀ V, Nw w5 V → Calls Try.prog 13 #[.slice (some ⟨g2, 0, none⟩) (ahead.length + 32) c2, va] V fun e w' => e = .returned (.bool true) ∧ Nw w5 w') ∧ Hid (∀ V, Nw w5 V → Calls Try.prog 14 #[.slice a3 R.length c3, .int .u8 3] V fun e w6 => (∃ r, e = .returned r) ∧ Hid (Calls Try.prog 10 #[.slice (some ⟨w6.heap.size, 0, none⟩) 2 2, .slice none 0 0, .int .i64 1] (w6.alloc (.cells #[.int .u8 16, .int .u8 97] 5)) fun e w7 => ∃ g7 c7, e = .returned (.tuple #[.slice (some ⟨g7, 0, none⟩) 1 c7, .int .i64 0, .int .i64 0]) ∧ w7.cell? ⟨g7, 0, none⟩ = some (.int .u8 97) ∧ 1 ≤ c7 ∧ Hid (∀ V, Nw w7 V → Calls Try.prog 12 #[.slice a4 R.length c4, .slice a5 R.length c5] V fun e w' => e = .returned (.bool true) ∧ Nw w7 w') ∧ Hid (∀ V, Nw w7 V → Calls Try.prog 13 #[.slice (some ⟨g1, 0, none⟩) (b.length + 32) c1, vb] V fun e w' => e = .returned (.bool true) ∧ Nw w7 w') ∧ Hid (∀ V, Nw w7 V → Calls Try.prog 13 #[.slice (some ⟨g2, 0, none⟩) (ahead.length + 32) c2, va] V fun e w' => e = .returned (.bool true) ∧ Nw w7 w') ∧ Hid (Nw w w7)))))))) := by
  show Calls _ _ _ _ _
  refine (lent_any w vb b hb hbl).mono ?_
  rintro e w1 ⟨g1, c1, rfl, hg1, hO1, hN1⟩
  refine ⟨g1, c1, rfl, ?_⟩
  show Calls _ _ _ _ _
  refine (lent_any w1 va ahead (Sl.later ha hN1) hal).mono ?_
  rintro e w2 ⟨g2, c2, rfl, hg2, hO2, hN2⟩
  refine ⟨g2, c2, rfl, ?_⟩
  have hg1l := hO1.lt
  have hg2l := hO2.lt
  have cut : ∀ {g c l w} (l0 : List By) (n : Nat), l = l0 ++ marks 32 → n = l0.length → Ow g (.slice (some ⟨g, 0, none⟩) (n + 32) c) l w → Old w (.slice (some ⟨g, 0, none⟩) n c) l0 := by
    intro g c l w l0 n hl hn h
    subst hl hn
    obtain ⟨c', e, h1, h2, h3⟩ := h.cut l0.length (by rw [List.length_append]; omega)
    injection e with _ _ e
    subst e
    rw [List.take_left] at h3
    exact h3.old
  have hc2 : Old w2 (.slice (some ⟨g1, 0, none⟩) b.length c1) b := cut b _ rfl rfl (hO1.nw hN2)
  have hd2 : Old w2 (.slice (some ⟨g2, 0, none⟩) ahead.length c2) ahead := cut ahead _ rfl rfl hO2
  show Calls _ _ _ _ _
  refine (decode_any w2 _ _ b ahead most hc2 hd2 hbl hal).mono ?_
  rw [hdec]
  rintro e w3 ⟨a3, c3, rfl, hM3, hN3⟩
  refine ⟨a3, c3, rfl, ?_⟩
  show Calls _ _ _ _ _
  refine (decode_any w3 _ _ b ahead most (Sl.later hc2 hN3) (Sl.later hd2 hN3) hbl hal).mono ?_
  rw [hdec]
  rintro e w4 ⟨a4, c4, rfl, hM4, hN4⟩
  refine ⟨a4, c4, rfl, ?_⟩
  have hw4 : Nw w w4 := ((hN1.trans hN2).trans hN3).trans hN4
  show Calls _ _ _ _ _
  refine (rDecode_any w4 vb va b ahead most (Sl.later hb hw4) (Sl.later ha hw4) hbl hal).mono ?_
  rw [hdec]
  rintro e w5 ⟨a5, c5, rfl, hS5, hN5⟩
  have hs3 := hN3.size
  have hs4 := hN4.size
  have hs5 := hN5.size
  have hw5 : Nw w w5 := hw4.trans hN5
  have hM3' := (hM3.nw hN4).nw hN5
  have hM4' := hM4.nw hN5
  have hx3 := hM3.sl.length
  have base : ∀ {f args V w5 v}, Nw w5 V → (Calls Try.prog f args V fun e w' => e = .returned v ∧ Nw V w') → Calls Try.prog f args V fun e w' => e = .returned v ∧ Nw w5 w' := fun hV h => cbase hV h
  have hsame : ∀ {w5 v1 v2}, Sl (fun _ => False) v1 R w5 → Sl (fun _ => False) v2 R w5 → ∀ V, Nw w5 V → Calls Try.prog 12 #[v1, v2] V fun e w' => e = .returned (.bool true) ∧ Nw w5 w' := by
    intro w5 v1 v2 h1 h2 V hV
    have := same_any V v1 v2 R R (h1.nw hV) (h2.nw hV) hRl hRl
    rw [decide_eq_true rfl] at this
    exact base hV this
  have F : ∀ {X : Nat → Prop} {v l w}, Sl X v l w → Sl (fun _ => False) v l w := fun h => h.mono (fun _ h => h.elim)
  have hO1' : Ow g1 (.slice (some ⟨g1, 0, none⟩) (b.length + 32) c1) (b ++ marks 32) w5 := (((hO1.nw hN2).nw hN3).nw hN4).nw hN5
  have hO2' : Ow g2 (.slice (some ⟨g2, 0, none⟩) (ahead.length + 32) c2) (ahead ++ marks 32) w5 := ((hO2.nw hN3).nw hN4).nw hN5
  refine ⟨a5, c5, rfl, hsame (F hM3'.sl) (F hS5), hsame (F hM4'.sl) (F hS5), fun V hV => base hV (kept_any V g1 c1 vb b (hO1'.nw hV) (F (hb.nw (hw5.trans hV))) hbl), fun V hV => base hV (kept_any V g2 c2 va ahead (hO2'.nw hV) (F (ha.nw (hw5.trans hV))) hal), ?_⟩
  intro V hV
  obtain ⟨X, hX, hXm⟩ := hM3.block
  have hXlo : ∀ k, X k → w2.heap.size ≤ k ∧ k < w3.heap.size := fun k hk => ⟨by have := (hX k hk).1; omega, (hX k hk).2⟩
  have hMx : Mine (fun k => k < V.heap.size ∧ ¬ X k) (.slice a3 R.length c3) R V := (((hXm (fun k => k < V.heap.size ∧ ¬ X k) (fun k hk => hk.2)).nw hN4).nw hN5).nw hV
  have hfu := full_any (fun k => k < V.heap.size ∧ ¬ X k) V (fun k hk => hk.1) _ R hMx hRl 3#8
  refine hfu.mono ?_
  rintro e w6 ⟨hr, hF6⟩
  refine ⟨hr, ?_⟩
  have hF6' : Fr X V w6 := hF6.mono (fun k hk => by
    by_cases hkX : X k
    · exact .inl hkX
    · exact .inr (by
        by_cases hlt : k < V.heap.size
        · exact absurd ⟨hlt, hkX⟩ hk
        · omega))
  have hsV := hV.size
  have hNw6 : Nw w w6 := Fr.then (hw5.trans hV) hF6' (fun k hk => .inr (by have := (hXlo k hk).1; have := hN1.size; have := hN2.size; omega))
  have hA : Nw w6 (w6.alloc (.cells #[.int .u8 16, .int .u8 97] 5)) := (Fr.refl _ _).alloc _
  have hsz : (w6.alloc (.cells #[.int .u8 16, .int .u8 97] 5)).heap.size = w6.heap.size + 1 := by simp
  have h16 : Old (w6.alloc (.cells #[.int .u8 16, .int .u8 97] 5)) (.slice (some ⟨w6.heap.size, 0, none⟩) 2 2) [16#8, 97#8] := .inr ⟨w6.heap.size, by omega, 0, 2, rfl, by simp, by decide, fun j hj => by
    have : j = 0 ∨ j = 1 := by simp at hj; omega
    rcases this with rfl | rfl
    · exact new_cell _ _ _ _ _ rfl
    · exact new_cell _ _ _ _ _ rfl⟩
  show Calls _ _ _ _ _
  refine (decode_any _ _ _ [16#8, 97#8] [] 1 h16 (.inl ⟨none, rfl, rfl⟩) (by simp) (by simp)).mono ?_
  rw [dec_one]
  rintro e w7 ⟨a7, c7, rfl, hM7, hN7⟩
  rcases hM7 with ⟨_, h7⟩ | ⟨g7, hg7, hO7⟩
  · simp at h7
  have hO7' := hO7
  obtain ⟨xs, e7, _, x3, x4, _⟩ := hO7'
  injection e7 with e7 _ e7'
  subst e7 e7'
  have h67 : Fr X V w7 := (hF6'.trans hA.any).trans hN7.any
  have hk1 : ∀ {l v g}, g < w2.heap.size → Ow g v l V → Ow g v l w7 := fun hg h => h.kept h67 (fun hx => by have := (hXlo _ hx).1; omega)
  refine ⟨g7, xs.length, rfl, (hO7.at 0 (by decide)).1, x3, ?_, ?_, ?_, (hNw6.trans hA).trans hN7⟩
  · refine hsame ?_ ?_
    · exact F ((hM4'.nw hV).sl.kept h67 (fun g hx => .inl (hXlo g hx).2))
    · exact F (((hS5.nw hV).mono (Y := fun k => k < w4.heap.size) (fun _ h => .inl h)).kept h67 (fun g hx => by have := (hXlo g hx).2; omega))
  · exact fun U hU => base hU (kept_any U g1 c1 vb b ((hk1 (by have := hN2.size; omega) (hO1'.nw hV)).nw hU) (F (hb.nw (((hNw6.trans hA).trans hN7).trans hU))) hbl)
  · exact fun U hU => base hU (kept_any U g2 c2 va ahead ((hk1 hg2l (hO2'.nw hV)).nw hU) (F (ha.nw (((hNw6.trans hA).trans hN7).trans hU))) hal)
end Go.Proofs.Ytpnacppmdlnjlaa

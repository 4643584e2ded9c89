import Derived.Test.YtdeefemeiggolaaFdNq
namespace Go.Proofs.Ytdeefemeiggolaa
open Go.RowKit
set_option linter.unusedVariables false
variable {D rb g o c : Nat} {b : List By} {most p : Nat} {out : List By} {K : Nat → Prop} {w : World}
/-- What framed and skipped lead to. -/
def RAlt (rb g o c : Nat) (b : List By) (most : Nat) (w : World) (P : Ending → World → Prop) (fb : Nat) (p : Nat) (la : Option Addr) (ll lc : Nat) (e : Ending) (w5 : World) : Prop :=
  (∃ a y : Nat, ¬ (y : Int) = 0 ∧ e = .returned (.tuple #[.int .i64 a, .int .i64 y]) ∧ Hid (P (.returned (.tuple #[.slice none 0 0, .slice none 0 0, .int .i64 a, .int .i64 y])) w5)) ∨
  (e = .returned (.tuple #[.int .i64 0, .int .i64 0]) ∧ ∃ f out' fs', w5.heap[fb]? = some (.cells (frow f) 49 (0, 0)) ∧ ∃ a2 k2 W, Hid (∀ ty, (Builtin.append_ #[34, 34] ty #[.slice la ll lc, .slice (some ⟨w5.heap.size, 0, none⟩) 1 1]).run Try.prog (w5.alloc (.cells (frow f) 49)) = .ok (.slice a2 (ll + 1) k2) W) ∧ p < f.till ∧ f.till ≤ b.length ∧ Hid (RdS rb g o c b most w f.till out' fs' (.slice a2 (ll + 1) k2) W))
theorem FL.fr {K' : Nat → Prop} {vl : Value} {fs : List Fm} {V V' : World} {fb : Nat} (h : FL D rb K vl fs V) (f : Fr (fun k => k = rb ∨ k = fb ∨ ¬ K' k) V V') (hK : ∀ k, K k → K' k) (hfb : ∀ lg, K lg → lg ≠ fb) : FL D rb K vl fs V' := by
  rcases h with h | ⟨lg, h1, h2, h3, h4⟩
  · exact .inl h
  · refine .inr ⟨lg, h1, h2, h3, h4.kept f (fun hx => ?_)⟩
    rcases hx with hx | hx | hx
    · exact h3 hx
    · exact hfb lg h1 hx
    · exact hx (hK _ h1)
theorem FL.mono {K' : Nat → Prop} {vl : Value} {fs : List Fm} {V : World} (h : FL D rb K vl fs V) (hK : ∀ k, K k → K' k) : FL D rb K' vl fs V := by
  rcases h with h | ⟨lg, h1, h2⟩
  · exact .inl h
  · exact .inr ⟨lg, hK _ h1, h2⟩
/-- A round of Read, behind has. -/
theorem rd_round {fs : List Fm} {la : Option Addr} {ll lc : Nat} {w1 : World} (P : Ending → World → Prop) (hP : P = Rd4 b most w) (hm : most ≤ 4194304) (hS : RdS rb g o c b most w p out fs (.slice la ll lc) w1) (hp4 : p + 4 ≤ b.length) (hbl : b.length ≤ 8000000000) (y0 : By) (hy0 : b[p]? = some y0) :
    RK rb g o c b.length p (w1.alloc (.cells (frow (Fm.start p)) 49)) ∧ (w1.alloc (.cells (frow (Fm.start p)) 49)).cell? ⟨g, o + p, none⟩ = some (.int .u8 y0.toNat) ∧
    Hid (Calls Try.prog 35 #[.slice (some ⟨g, o + p, none⟩) (b.length - p) (c - p)] (w1.alloc (.cells (frow (Fm.start p)) 49)) fun e w' => e = .returned (.int .i64 (knd (b.drop p))) ∧ w' = w1.alloc (.cells (frow (Fm.start p)) 49)) ∧
    (knd (b.drop p) = 0 → Hid (∀ n, P (.returned (.tuple #[.slice none 0 0, .slice none 0 0, .int .i64 p, .int .i64 130])) ((w1.alloc (.cells (frow (Fm.start p)) 49)).drewN n))) ∧
    (knd (b.drop p) = 1 → Hid (Calls Try.prog 36 #[.pointer (some ⟨rb, 0, none⟩), .pointer (some ⟨w1.heap.size, 0, none⟩)] ((w1.alloc (.cells (frow (Fm.start p)) 49)).setCell ⟨rb, 1, none⟩ (.int .i64 ((p + 4 : Nat) : Int))) (RAlt rb g o c b most w P w1.heap.size p la ll lc))) ∧
    (knd (b.drop p) = 2 → ∃ u : Nat, (y0.toNat : Int) - 80 = (u : Int) ∧ (∃ x, ((w1.alloc (.cells (frow (Fm.start p)) 49)).setCell ⟨rb, 1, none⟩ (.int .i64 ((p + 4 : Nat) : Int))).cell? ⟨w1.heap.size, 3, none⟩ = some x) ∧ ((w1.alloc (.cells (frow (Fm.start p)) 49)).setCell ⟨rb, 1, none⟩ (.int .i64 ((p + 4 : Nat) : Int))).frozen? ⟨w1.heap.size, 3, none⟩ = false ∧ Hid (Calls Try.prog 37 #[.pointer (some ⟨rb, 0, none⟩), .pointer (some ⟨w1.heap.size, 0, none⟩)] (((w1.alloc (.cells (frow (Fm.start p)) 49)).setCell ⟨rb, 1, none⟩ (.int .i64 ((p + 4 : Nat) : Int))).setCell ⟨w1.heap.size, 3, none⟩ (.int .i64 u)) (RAlt rb g o c b most w P w1.heap.size p la ll lc))) := by
  have hS' := hS
  obtain ⟨K, h1, hl, hr, hlen, hN⟩ := hS
  obtain ⟨la', lc', e, _, _⟩ := hl.form
  injection e with _ ell _
  obtain ⟨hR2, hB2, hl2, hN2⟩ := new12 h1 hl p
  have hlt1 := h1.lt rb h1.kr
  obtain ⟨hb1, hb2⟩ := hS'.next (by omega)
  have hsN : w.heap.size ≤ w1.heap.size := hN.size
  have hfbK : ∀ lg, K lg → lg ≠ w1.heap.size := fun lg hk => by have := h1.lt lg hk; omega
  generalize w1.alloc (.cells (frow (Fm.start p)) 49) = V2 at *
  obtain ⟨j1, j2⟩ := hR2.go (p + 4) (by omega)
  have hB3 := hB2.kept j2 (show ¬ w1.heap.size = rb by omega)
  have hl3 : FL w.heap.size rb K (.slice la ll lc) fs (V2.setCell ⟨rb, 1, none⟩ (.int .i64 ((p + 4 : Nat) : Int))) := by
    rcases hl2 with h | ⟨lg, a1, a2, a3, a4⟩
    · exact .inl h
    · exact .inr ⟨lg, a1, a2, a3, a4.kept j2 a3⟩
  have hN3 : Nw w (V2.setCell ⟨rb, 1, none⟩ (.int .i64 ((p + 4 : Nat) : Int))) := Fr.then (hN.trans hN2) j2 (fun i hi => .inr (by have := h1.dr; omega))
  have hkd := knd_drop b p hp4
  have hN2w := hN.trans hN2
  refine ⟨RK.of hR2, hR2.rd.at p y0 hy0, ?_, fun h0 n => ?_, fun h0 => ?_, fun h0 => ?_⟩
  · show Calls _ _ _ _ _
    have hsl := hR2.sl p (b.length - p) (by omega)
    have e : tk b p (b.length - p) = b.drop p := by unfold tk; exact List.take_of_length_le (by rw [List.length_drop]; omega)
    rw [e] at hsl
    exact dmagic_any _ _ _ _ hsl
  · rw [hP]
    refine Rd4.bad hm (hb1 _ _ ?_) (hN2w.drewN n)
    unfold nextF
    rw [hkd] at h0
    by_cases e1 : le (tk b p 4) = 407708164
    · rw [if_pos e1] at h0; cases h0
    · rw [if_neg e1] at h0
      by_cases e2 : le (tk b p 4) / 16 = 25481893
      · rw [if_pos e2] at h0; cases h0
      · rw [if_neg (by omega), if_neg e1, if_neg e2]
  · show Calls _ _ _ _ _
    have e1 : le (tk b p 4) = 407708164 := by
      by_cases e1 : le (tk b p 4) = 407708164
      · exact e1
      · rw [hkd, if_neg e1] at h0
        split at h0 <;> cases h0
    have hnx : nextF b most p out = frameF b most p out := by unfold nextF; rw [if_neg (by omega), if_pos e1]
    refine (eframed_any p j1 w1.heap.size hB3 (by omega) (.inr rfl) (by omega)).mono ?_
    rintro e w5 ⟨hF, hr5⟩
    have hN5 : Nw w w5 := Fr.then hN3 hF (fun i hi => .inr (by
      rcases hi with hi | hi | hi
      · have := h1.dr; omega
      · omega
      · by_cases hx : i < w.heap.size
        · exact absurd (.inl (h1.low i hx)) hi
        · omega))
    cases hfr : frameF b most p out with
    | bad a y =>
      rw [hfr] at hr5
      refine .inl ⟨a, y, by have := frameF_bad hfr; omega, hr5, ?_⟩
      show P _ _
      rw [hP]
      exact Rd4.bad hm (hb1 _ _ (hnx.trans hfr)) hN5
    | ok r =>
      obtain ⟨f, out'⟩ := r
      rw [hfr] at hr5
      obtain ⟨a2, k2, W, q1, q2, q3, q4⟩ := hS'.push (by omega) (hnx.trans hfr) hr5.2.1 ((hl3.fr hF (fun k hk => .inl hk) hfbK).mono (fun k hk => .inl hk)) hN5 hbl
      rw [← ell] at q1 q4
      exact .inr ⟨hr5.1, f, out', _, hr5.2.2, a2, k2, W, q1, q2, q3, q4⟩
  · have e1 : ¬ le (tk b p 4) = 407708164 := fun e1 => by rw [hkd, if_pos e1] at h0; cases h0
    have e2 : le (tk b p 4) / 16 = 25481893 := by
      by_cases e2 : le (tk b p 4) / 16 = 25481893
      · exact e2
      · rw [hkd, if_neg e1, if_neg e2] at h0; cases h0
    have hu := user_drop b p hp4 y0 hy0 e2
    obtain ⟨u, hue⟩ : ∃ u, le (tk b p 4) % 16 = u := ⟨_, rfl⟩
    rw [hue] at hu
    obtain ⟨k1, k2, k3, k4, k5⟩ := FB.keepRf (Fm.start p) j1 hB3 (show w1.heap.size ≠ rb by omega) (.inr rfl) (by omega) 3 _ (.int .i64 u) { Fm.start p with user := u } rfl rfl
    refine ⟨u, by omega, ⟨_, k1⟩, k2, ?_⟩
    show Calls _ _ _ _ _
    have hns := next_skip b most p out (by omega) e1 e2
    rw [hue] at hns
    have hl4 : FL w.heap.size rb K (.slice la ll lc) fs ((V2.setCell ⟨rb, 1, none⟩ (.int .i64 ((p + 4 : Nat) : Int))).setCell ⟨w1.heap.size, 3, none⟩ (.int .i64 u)) := by
      rcases hl3 with h | ⟨lg, a1, a2, a3, a4⟩
      · exact .inl h
      · refine .inr ⟨lg, a1, a2, a3, a4.kept k5 (fun hx => ?_)⟩
        rcases hx with hx | hx
        · exact a3 hx
        · exact hfbK lg a1 hx
    have hN4 : Nw w ((V2.setCell ⟨rb, 1, none⟩ (.int .i64 ((p + 4 : Nat) : Int))).setCell ⟨w1.heap.size, 3, none⟩ (.int .i64 u)) := Fr.then hN3 k5 (fun i hi => .inr (by
      have := h1.dr
      rcases hi with hi | hi <;> omega))
    refine (eskipped_any k3 w1.heap.size _ k4 (by omega) (.inr rfl) (by omega)).mono ?_
    rintro e w5 ⟨hF, hr5⟩
    have hN5 : Nw w w5 := Fr.then hN4 hF (fun i hi => .inr (by
      have := h1.dr
      rcases hi with hi | hi <;> omega))
    have hl5 : FL w.heap.size rb K (.slice la ll lc) fs w5 := by
      rcases hl4 with h | ⟨lg, a1, a2, a3, a4⟩
      · exact .inl h
      · refine .inr ⟨lg, a1, a2, a3, a4.kept hF (fun hx => ?_)⟩
        rcases hx with hx | hx
        · exact a3 hx
        · exact hfbK lg a1 hx
    cases hsk : skipR b (p + 4) with
    | bad a y =>
      rw [hsk] at hr5 hns
      refine .inl ⟨a, y, by have := nextF_bad hns; omega, hr5, ?_⟩
      show P _ _
      rw [hP]
      exact Rd4.bad hm (hb1 _ _ hns) hN5
    | ok q =>
      rw [hsk] at hr5 hns
      obtain ⟨a2, k2', W, q1, q2, q3, q4⟩ := hS'.push (by omega) hns hr5.2.1 (hl5.mono (fun k hk => .inl hk)) hN5 hbl
      rw [← ell] at q1 q4
      exact .inr ⟨hr5.1, _, out, _, hr5.2.2, a2, k2', W, q1, q2, q3, q4⟩
end Go.Proofs.Ytdeefemeiggolaa

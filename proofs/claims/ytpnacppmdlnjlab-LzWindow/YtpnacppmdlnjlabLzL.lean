import Derived.Test.YtpnacppmdlnjlabLzK
namespace Go.Proofs.Ytpnacppmdlnjlab
open Go.RowKit
set_option linter.unusedVariables false
set_option maxHeartbeats 8000000 in
set_option maxRecDepth 100000 in
/-- match, where nothing of ahead is wanted. -/
theorem pmatch_in {D pb : Nat} {va : Value} {ahead : List By} {most : Nat} {s : List By} {K : Nat → Prop} {w : World} (back n : Nat) (h : PI D pb va ahead most s K w) (hD : ∀ k, k < D → K k) (hK : ∀ k, K k → k < w.heap.size) (hb : 1 ≤ back) (hb2 : back ≤ s.length) (hn : s.length + n ≤ most) :
    Calls Try.prog 43 #[.pointer (some ⟨pb, 0, none⟩), .int .i64 back, .int .i64 n] w fun e w' => (∃ r, e = .returned r) ∧ PI D pb va ahead most ((pl ahead most).mat s back n) K w' ∧ Fr (fun k => ¬ K k) w w' := by
  obtain ⟨P, hP⟩ : ∃ P : Ending → World → Prop, P = fun e w' => (∃ r, e = .returned r) ∧ PI D pb va ahead most ((pl ahead most).mat s back n) K w' ∧ Fr (fun k => ¬ K k) w w' := ⟨_, rfl⟩
  rw [← hP]
  have HP : Hid (P = fun e w' => (∃ r, e = .returned r) ∧ PI D pb va ahead most ((pl ahead most).mat s back n) K w' ∧ Fr (fun k => ¬ K k) w w') := hP
  clear hP
  obtain ⟨vo, h1, h2⟩ := h.out
  obtain ⟨a0, c0, rfl, hc0, hc02⟩ := h2.sl.form
  have hlm := h.lm
  have HI0 : Hid (MI D pb va ahead most s back n (s.length - back) K w s n w) := ⟨h, Fr.refl _ _, Per.refl _ _, rfl, fun _ => ⟨1, Nat.le_refl _, by omega⟩, fun _ => by omega⟩
  have HRD : Hid (∀ out len wr, 0 < len → MI D pb va ahead most s back n (s.length - back) K w out len wr → _) := fun out len wr hl hm => hm.round hb (by simp; omega) hD hK hn hl
  have HDN : Hid (∀ out wr, MI D pb va ahead most s back n (s.length - back) K w out 0 wr → (PI D pb va ahead most ((pl ahead most).mat s back n) K wr ∧ Fr (fun k => ¬ K k) w wr)) := fun out wr hm => ⟨hm.done hb (by simp; omega), hm.ff⟩
  have HL : Hid (∀ out len wr, MI D pb va ahead most s back n (s.length - back) K w out len wr → out.length + len = s.length + n ∧ ∃ a c, wr.cell? ⟨pb, 1, none⟩ = some (.slice a out.length c)) := fun out len wr hm => ⟨hm.sum, by
    obtain ⟨vo, q1, q2⟩ := hm.pi.out
    obtain ⟨a, c, rfl, _⟩ := q2.sl.form
    exact ⟨a, c, q1⟩⟩
  clear h h2
  obtain ⟨fr, hfr⟩ : ∃ fr, fr = s.length - back := ⟨_, rfl⟩
  rw [← hfr] at HI0 HRD HDN HL
  generalize hls : s.length = ls at *
  have hz1 : (ls : Int) - (back : Int) = (fr : Int) := by omega
  have hz2 : ¬ 0 < (back : Int) - (ls : Int) := by omega
  have hz3 : max (fr : Int) 0 = fr := by omega
  have hfr' : Hid (fr = ls - back) := hfr
  have hls' : Hid (s.length = ls) := hls
  clear hfr hls
  go_enter Try.func43, Try.ntmps43
  go_wp2
  go_loopg [2] (n + 1) (fun kx l wr => ∃ (out : List By) (len : Nat), len < kx ∧ l = .int .i64 len ∧ Hid (MI D pb va ahead most s back n fr K w out len wr))
  case atStart => exact ⟨s, n, by omega, rfl, HI0⟩
  case round =>
    obtain ⟨out, len, hkx, rfl, HI⟩ := hrel
    clear HI0
    by_cases hl : 0 < len
    · obtain ⟨g, c, v', W, u, q1, q2, q3, q4, q5, q6, HAP, ⟨a', l', c', hv'⟩, HM⟩ := HRD.out out len wr.drew hl (HI.out.nw (Fr.refl _ _).drew)
      have q1' : wr.cell? ⟨pb, 1, none⟩ = some (.slice (some ⟨g, 0, none⟩) out.length c) := q1
      clear q1
      obtain ⟨hsum, _⟩ := HL.out out len wr HI.out
      subst hv'
      clear HRD HDN HL HI
      generalize hol : out.length = ol at *
      generalize hq : min len (ol - fr) = q at *
      have hz5 : min (len : Int) ((ol : Int) - (fr : Int)) = (q : Int) := by omega
      have hz8 : (len : Int) - (q : Int) = ((len - q : Nat) : Int) := by omega
      have hz6 : IntKind.i64.wrap ((fr : Int) + (q : Int)) = (fr : Int) + (q : Int) := by rw [IntKind.wrap_i64]; omega
      have hz9 : (fr : Int) + (q : Int) ≤ (c : Int) := by omega
      have hz10 : (0 : Int) ≤ (fr : Int) + (q : Int) := by omega
      have hz11 : ((fr : Int) + (q : Int)).toNat = fr + q := by omega
      have hz7 : ¬ c = fr := by omega
      have hqb : q ≤ ol - fr := by omega
      have hq1 : 1 ≤ q := by omega
      have hol' : Hid (out.length = ol) := hol
      have hq' : Hid (min len (ol - fr) = q) := hq
      have hqle : q ≤ len := by omega
      clear hol hq
      go_wp2_with fail
      go_region_law (first
        | (refine step_append_run rfl _ _ rfl (.slice (some ⟨g, 0, none⟩) ol c) (.slice (some ⟨g, fr, none⟩) q (c - fr)) (by first | rfl | simp [Act.eval, Act.put]) (by first | rfl | simp [Act.eval, Act.put]) _ _ (HAP.out) ?_))
      all_goals go_wp2_with fail
      all_goals go_roundg len
      all_goals (first
        | omega
        | (obtain ⟨out', h1', h2'⟩ := HM.out _ (Fr.refl _ _); exact ⟨out', len - q, by omega, by first | rfl | (congr 1), h2'⟩))
    · obtain rfl : len = 0 := by omega
      obtain ⟨k1, k2⟩ := HDN.out out wr HI.out
      have hz0 : ¬ (0 : Int) < ((0 : Nat) : Int) := by decide
      go_wp2
      go_end0
      rw [HP.out]
      exact ⟨⟨_, rfl⟩, k1, k2⟩
end Go.Proofs.Ytpnacppmdlnjlab

import Derived.Test.YtkpkiajehclbhaaBiH
import Derived.Test.YtkpkiajehclbhaaBiO
namespace Go.Proofs.Ytkpkiajehclbhaa
open Go.RowKit
set_option linter.unusedVariables false
/-- How BitsReads stands: the bytes that were lent, both readers at p. -/
structure RsI (w : World) (D1 D2 gc cc rb1 rb2 : Nat) (vl : Value) (b : List By) (p : Nat) (wr : World) : Prop where
  r1 : Rr 82 (fun k => D1 ≤ k) rb1 (.slice (some ⟨gc, 0, none⟩) b.length cc) b p wr
  r2 : Rr 31 (fun k => k = rb1 ∨ D2 ≤ k) rb2 vl (bl (le b) (8 * b.length)) p wr
  ow : Ow gc (.slice (some ⟨gc, 0, none⟩) (b.length + 32) cc) (b ++ marks 32) wr
  h0 : w.heap.size ≤ gc
  h1 : gc < D1
  h2 : D1 ≤ rb1
  h3 : rb1 < D2
  h4 : D2 ≤ rb2
  pl : p ≤ 8 * b.length
  nw : Nw w wr
variable {w : World} {D1 D2 gc cc rb1 rb2 : Nat} {vl : Value} {b : List By} {p : Nat} {wr : World}
theorem RsI.step1 {p' : Nat} {W : World} (h : RsI w D1 D2 gc cc rb1 rb2 vl b p wr) (hr : Rr 82 (fun k => D1 ≤ k) rb1 (.slice (some ⟨gc, 0, none⟩) b.length cc) b p' W) (f : Fr (fun k => k = rb1) wr W) :
    Rr 31 (fun k => k = rb1 ∨ D2 ≤ k) rb2 vl (bl (le b) (8 * b.length)) p W ∧ Ow gc (.slice (some ⟨gc, 0, none⟩) (b.length + 32) cc) (b ++ marks 32) W ∧ Nw w W := by
  have := h.h0
  have := h.h1
  have := h.h2
  have := h.h3
  have := h.h4
  exact ⟨h.r2.kept f (by omega) (fun g hg => .inl hg), h.ow.kept f (by omega), Fr.then h.nw f (fun i hi => .inr (by omega))⟩
theorem RsI.step2 {p' : Nat} {W W' : World} (h : RsI w D1 D2 gc cc rb1 rb2 vl b p wr) (hr : Rr 82 (fun k => D1 ≤ k) rb1 (.slice (some ⟨gc, 0, none⟩) b.length cc) b p' W) (f : Fr (fun k => k = rb1) wr W)
    (hr2 : Rr 31 (fun k => k = rb1 ∨ D2 ≤ k) rb2 vl (bl (le b) (8 * b.length)) p' W') (f2 : Fr (fun k => k = rb2) W W') (hp : p' ≤ 8 * b.length) : RsI w D1 D2 gc cc rb1 rb2 vl b p' W' := by
  obtain ⟨k1, k2, k3⟩ := h.step1 hr f
  have := h.h0
  have := h.h1
  have := h.h2
  have := h.h3
  have := h.h4
  exact ⟨hr.kept f2 (by omega) (fun g hg => by omega), hr2, k2.kept f2 (by omega), h.h0, h.h1, h.h2, h.h3, h.h4, hp, Fr.then k3 f2 (fun i hi => .inr (by omega))⟩
/-- What lies beyond is of no account. -/
theorem RsI.keep {X : Nat → Prop} {W : World} (h : RsI w D1 D2 gc cc rb1 rb2 vl b p wr) (f : Fr X wr W) (hX : ∀ g, X g → wr.heap.size ≤ g) : RsI w D1 D2 gc cc rb1 rb2 vl b p W := by
  have f' : Nw wr W := f.mono (fun i hi => .inr (hX i hi))
  exact ⟨h.r1.nw f', h.r2.nw f', h.ow.nw f', h.h0, h.h1, h.h2, h.h3, h.h4, h.pl, h.nw.trans f'⟩
theorem takeF_le (N V p : Nat) (n : Int) (h : p ≤ N) : (takeF N V p n).2.2 ≤ N := by
  unfold takeF
  split
  · exact h
  · split
    · exact h
    · simp only; omega
theorem bytesF_le (L V p : Nat) (n : Int) (h : p ≤ 8 * L) : (bytesF (8 * L) V p n).2.2 ≤ 8 * L := by
  have := up8_le p L h
  unfold bytesF
  split
  · exact this.1
  · split
    · exact this.1
    · simp only; omega
/-- Take by both. -/
theorem RsI.take (h : RsI w D1 D2 gc cc rb1 rb2 vl b p wr) (n : Int) : ∃ x er p' : Nat, Hid (Calls Try.prog 12 #[.pointer (some ⟨rb1, 0, none⟩), .int .i64 n] wr fun e w1 => e = .returned (.tuple #[.int .u32 x, .int .i64 er]) ∧ Hid (Nw w w1) ∧ Hid (Calls Try.prog 13 #[.pointer (some ⟨rb2, 0, none⟩), .int .i64 n] w1 fun e w2 => e = .returned (.tuple #[.int .u32 x, .int .i64 er]) ∧ Hid (RsI w D1 D2 gc cc rb1 rb2 vl b p' w2))) := by
  refine ⟨(takeF (8 * b.length) (le b) p n).1, (takeF (8 * b.length) (le b) p n).2.1, (takeF (8 * b.length) (le b) p n).2.2, (btake_any h.r1 h.pl n).mono ?_⟩
  rintro e w1 ⟨rfl, hr, hf⟩
  obtain ⟨k1, k2, k3⟩ := h.step1 hr hf
  refine ⟨rfl, k3, (stake_any k1 h.pl n).mono ?_⟩
  rintro e w2 ⟨rfl, hr2, hf2⟩
  exact ⟨rfl, h.step2 hr hf hr2 hf2 (takeF_le _ _ _ _ h.pl)⟩
/-- Align by both. -/
theorem RsI.align (h : RsI w D1 D2 gc cc rb1 rb2 vl b p wr) : ∃ p' : Nat, Hid (Calls Try.prog 14 #[.pointer (some ⟨rb1, 0, none⟩)] wr fun e w1 => (∃ r, e = .returned r) ∧ Hid (Calls Try.prog 15 #[.pointer (some ⟨rb2, 0, none⟩)] w1 fun e w2 => (∃ r, e = .returned r) ∧ Hid (RsI w D1 D2 gc cc rb1 rb2 vl b p' w2))) := by
  refine ⟨up8 p, (balign_any h.r1 h.pl).mono ?_⟩
  rintro e w1 ⟨he, hr, hf⟩
  obtain ⟨k1, k2, k3⟩ := h.step1 hr hf
  refine ⟨he, (salign_any k1 h.pl).mono ?_⟩
  rintro e w2 ⟨he2, hr2, hf2⟩
  exact ⟨he2, h.step2 hr hf hr2 hf2 (up8_le _ _ h.pl).1⟩
theorem Mine.len {K : Nat → Prop} {v : Value} {l : List By} {w : World} (h : Mine K v l w) : l.length < 9223372036854775808 := h.sl.length
/-- Bytes by both, same, and the bytes written over. -/
theorem RsI.bytes (h : RsI w D1 D2 gc cc rb1 rb2 vl b p wr) (n : Int) (hn : n < 9223372036854775808) : ∃ er p' : Nat, Hid (Calls Try.prog 16 #[.pointer (some ⟨rb1, 0, none⟩), .int .i64 n] wr fun e w1 => ∃ x, e = .returned (.tuple #[x, .int .i64 er]) ∧ Hid (Nw w w1) ∧ Hid (Calls Try.prog 17 #[.pointer (some ⟨rb2, 0, none⟩), .int .i64 n] w1 fun e w2 => ∃ y, e = .returned (.tuple #[y, .int .i64 er]) ∧ Hid (Calls Try.prog 18 #[x, y] w2 fun e w3 => e = .returned (.bool true) ∧ Hid (Calls Try.prog 19 #[x, .int .u8 3] w3 fun e w4 => (∃ r, e = .returned r) ∧ Hid (RsI w D1 D2 gc cc rb1 rb2 vl b p' w4))))) := by
  have hup := up8_le p b.length h.pl
  refine ⟨(bytesF (8 * b.length) (le b) p n).2.1, (bytesF (8 * b.length) (le b) p n).2.2, (bbytes_any h.r1 h.pl n hn).mono ?_⟩
  rintro e w1 ⟨x, rfl, hM, hr, hf⟩
  obtain ⟨k1, k2, k3⟩ := h.step1 hr hf
  have hll : (bytesF (8 * b.length) (le b) p n).1.length ≤ 17592186044416 := by
    have hbl := h.r1.bl
    unfold bytesF
    split
    · simp
    · split
      · simp
      · simp only [lows_length]; omega
  refine ⟨x, rfl, k3, (sbytes_any k1 hup.1 n hn).mono ?_⟩
  rintro e w2 ⟨y, rfl, hM2, hr2, hf2⟩
  have hlt1 := h.r1.lt
  have hlt2 := h.r2.lt
  have hM' : Mine (fun k => k < wr.heap.size) x (bytesF (8 * b.length) (le b) p n).1 w2 := hM.kept hf2 (fun g hg => .inl (by subst hg; exact hlt2))
  refine ⟨y, rfl, (same_any w2 x y _ _ (hM'.sl.mono (fun _ h => h.elim)) (hM2.sl.mono (fun _ h => h.elim)) (by omega) (by omega)).mono ?_⟩
  rintro e w3 ⟨rfl, hN3⟩
  have hI := (h.step2 hr hf hr2 hf2 (bytesF_le _ _ _ _ h.pl)).keep hN3 (fun g h => h.elim)
  have hs := hf.size
  have hs2 := hf2.size
  have hs3 := hN3.size
  have hsz := h.nw.size
  have hfu := full_any (fun k => k < wr.heap.size) w3 (fun k hk => by have : k < wr.heap.size := hk; omega) x _ (hM'.nw hN3) (by omega) 3#8
  refine ⟨by simp, hfu.mono ?_⟩
  rintro e w4 ⟨hr4, hf4⟩
  refine ⟨hr4, ?_⟩
  show RsI _ _ _ _ _ _ _ _ _ _ _
  have hX : ∀ g, ¬ g < wr.heap.size → wr.heap.size ≤ g := fun g hg => by omega
  have r1 := hI.r1
  refine ⟨hI.r1.kept hf4 (fun h' => h' hlt1) (fun g hg => ?_), hI.r2.kept hf4 (fun h' => h' hlt2) (fun g hg => ?_), hI.ow.kept hf4 (fun h' => h' h.ow.lt), hI.h0, hI.h1, hI.h2, hI.h3, hI.h4, hI.pl, Fr.then hI.nw hf4 (fun i hi => .inr (by omega))⟩
  · have := hI.h2; show D1 ≤ g; omega
  · have := hI.h4; exact .inr (by omega)
/-- Left of both, and what was lent is as it was. -/
theorem RsI.left (h : RsI w D1 D2 gc cc rb1 rb2 vl b p wr) (vb : Value) (hb : Old w vb b) : ∃ q : Nat, Hid (Calls Try.prog 20 #[.pointer (some ⟨rb1, 0, none⟩)] wr fun e w1 => e = .returned (.int .i64 q) ∧ Hid (Calls Try.prog 21 #[.pointer (some ⟨rb2, 0, none⟩)] w1 fun e w2 => e = .returned (.int .i64 q) ∧ Hid (Nw w w2) ∧ Hid (Calls Try.prog 22 #[.slice (some ⟨gc, 0, none⟩) (b.length + 32) cc, vb] w2 fun e w3 => e = .returned (.bool true) ∧ Hid (RsI w D1 D2 gc cc rb1 rb2 vl b p w3)))) := by
  refine ⟨8 * b.length - p, (left_any h.r1 h.pl).mono ?_⟩
  rintro e w1 ⟨rfl, hN⟩
  have h1 := h.keep hN (fun g h => h.elim)
  refine ⟨rfl, (sleft_any h1.r2 h1.pl).mono ?_⟩
  rintro e w2 ⟨rfl, hN2⟩
  have h2 := h1.keep hN2 (fun g h => h.elim)
  have hbl := h.r1.bl
  refine ⟨rfl, h2.nw, (kept_any w2 gc cc vb b h2.ow ((hb.nw h2.nw).mono (fun _ h => h.elim)) (by omega)).mono ?_⟩
  rintro e w3 ⟨rfl, hN3⟩
  exact ⟨rfl, h2.keep hN3 (fun g h => h.elim)⟩
/-- The calls ahead of the loop. -/
theorem rs_start (w : World) (vb : Value) (b : List By) (hb : Old w vb b) (hbl : b.length ≤ 1000000000) : Hid (Calls Try.prog 9 #[vb] w fun e w1 => ∃ gc cc, e = .returned (.tuple #[.slice (some ⟨gc, 0, none⟩) b.length cc, .slice (some ⟨gc, 0, none⟩) (b.length + 32) cc]) ∧ Hid (Calls Try.prog 10 #[.slice (some ⟨gc, 0, none⟩) b.length cc] w1 fun e w2 => ∃ rb1, e = .returned (.pointer (some ⟨rb1, 0, none⟩)) ∧ Hid (Calls Try.prog 11 #[vb] w2 fun e w3 => ∃ gl cl N, e = .returned (.slice (some ⟨gl, 0, none⟩) N cl) ∧ Hid (∃ D1 D2 vl, RsI w D1 D2 gc cc rb1 w3.heap.size vl b 0 (w3.alloc (.cells #[.slice (some ⟨gl, 0, none⟩) N cl, .int .i64 0] 31)))))) := by
  refine (lent_any w vb b hb (by omega)).mono ?_
  rintro e w1 ⟨gc, cc, rfl, hg, hO, hN⟩
  have hO' := hO
  obtain ⟨xs, e1, hx2, hx3, hx4, hx5⟩ := hO'
  injection e1 with _ _ e3
  have hml := marks_length 32
  have hbm : (b ++ marks 32).length = b.length + 32 := by rw [List.length_append, hml]
  have hsl : Sl (fun k => w1.heap.size ≤ k) (.slice (some ⟨gc, 0, none⟩) b.length cc) b w1 := by
    have hlt := hO.lt
    refine .inr ⟨gc, by omega, 0, cc, rfl, by omega, by omega, ?_⟩
    have := hO.slb
    obtain ⟨o, c, e, _, _, hr⟩ := this
    injection e with e1 _ _
    injection e1 with e1
    injection e1 with _ e2
    subst e2
    have h2 := hr.take b.length
    rw [List.take_append_of_le_length (Nat.le_refl _), List.take_length] at h2
    exact h2
  refine ⟨gc, cc, rfl, (newReader_any w1 (fun k => w1.heap.size ≤ k) _ b hsl (Nat.le_refl _) (by omega)).mono ?_⟩
  rintro e w2 ⟨rfl, hR, hN2⟩
  refine ⟨w1.heap.size, rfl, (sBits_any w2 vb b ((hb.nw (hN.trans hN2)).mono (fun _ h => h.elim)) (by omega)).mono ?_⟩
  rintro e w3 ⟨gl, cl, rfl, hgl, hOl, hN3⟩
  refine ⟨gl, cl, (bl (le b) (8 * b.length)).length, rfl, w1.heap.size, w3.heap.size, .slice (some ⟨gl, 0, none⟩) (bl (le b) (8 * b.length)).length cl, ?_⟩
  have hr1 := hR.lt
  have hr3 := hN3.size
  have hO3 := hOl.lt
  have hOg := hO.lt
  have ha : Nw w3 (w3.alloc (.cells #[.slice (some ⟨gl, 0, none⟩) (bl (le b) (8 * b.length)).length cl, .int .i64 0] 31)) := (Fr.refl _ _).alloc _
  exact ⟨(hR.nw hN3).nw ha, ⟨new_heap _ _, .inr ⟨gl, by omega, (hOl.nw ha).slb⟩, .inr (Nat.le_refl _), by rw [bl_length]; omega⟩, ((hO.nw hN2).nw hN3).nw ha, hg, hOg, Nat.le_refl _, by omega, Nat.le_refl _, by omega, ((hN.trans hN2).trans hN3).trans ha⟩
end Go.Proofs.Ytkpkiajehclbhaa

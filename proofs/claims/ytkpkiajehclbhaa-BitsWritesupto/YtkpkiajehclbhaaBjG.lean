import Derived.Test.YtkpkiajehclbhaaBjF
import Derived.Test.YtkpkiajehclbhaaBiO
namespace Go.Proofs.Ytkpkiajehclbhaa
open Go.RowKit
set_option linter.unusedVariables false
/-- How BitsWrites stands: both writers wrote n bits, V as a number; no block of one is the other's. -/
structure WsI (w : World) (wb1 wb2 : Nat) (og1 og2 : Option Nat) (V n : Nat) (wr : World) : Prop where
  p : Wr wb1 og1 V n wr
  d : Ws wb2 og2 V n wr
  ne : wb1 ≠ wb2
  n12 : og1 ≠ some wb2
  n21 : og2 ≠ some wb1
  noo : ∀ g, og1 = some g → og2 ≠ some g
  h1 : w.heap.size ≤ wb1
  h2 : w.heap.size ≤ wb2
  h3 : ∀ g, og1 = some g → w.heap.size ≤ g
  h4 : ∀ g, og2 = some g → w.heap.size ≤ g
  nw : Nw w wr
  nl : n ≤ 800000000000
variable {w : World} {wb1 wb2 : Nat} {og1 og2 : Option Nat} {V n : Nat} {wr : World}
theorem WsI.keep {W : World} (h : WsI w wb1 wb2 og1 og2 V n wr) (f : Nw wr W) : WsI w wb1 wb2 og1 og2 V n W :=
  ⟨h.p.nw f, h.d.nw f, h.ne, h.n12, h.n21, h.noo, h.h1, h.h2, h.h3, h.h4, h.nw.trans f, h.nl⟩
/-- The program's writer went on. -/
theorem WsI.go1 {og1' : Option Nat} {V' n' : Nat} {W : World} (h : WsI w wb1 wb2 og1 og2 V n wr) (hp : Wr wb1 og1' V' n' W) (f : Fr (fun k => k = wb1 ∨ og1 = some k) wr W) (hw : Went og1 og1' wr) :
    Ws wb2 og2 V n W ∧ og1' ≠ some wb2 ∧ (∀ g, og1' = some g → og2 ≠ some g) ∧ (∀ g, og1' = some g → w.heap.size ≤ g) ∧ Nw w W := by
  have hs := h.nw.size
  refine ⟨h.d.kept f (fun hx => ?_) (fun g hg hx => ?_), hw.ne wb2 h.n12 h.d.lt, fun g hg hg2 => ?_, fun g hg => ?_, Fr.then h.nw f (fun i hi => ?_)⟩
  · rcases hx with e | e
    · exact h.ne e.symm
    · exact h.n12 e
  · rcases hx with e | e
    · exact h.n21 (by rw [hg, e])
    · exact h.noo g e hg
  · rcases hw with rfl | ⟨g', rfl, hg'⟩
    · exact h.noo g hg hg2
    · injection hg with hg; subst hg; have := h.d.olt _ hg2; omega
  · rcases hw with rfl | ⟨g', rfl, hg'⟩
    · exact h.h3 g hg
    · injection hg with hg; subst hg; omega
  · rcases hi with rfl | e
    · exact .inr h.h1
    · exact .inr (h.h3 i e)
/-- Then the document's. -/
theorem WsI.go2 {og1' og2' : Option Nat} {V' n' : Nat} {W W' : World} (h : WsI w wb1 wb2 og1 og2 V n wr) (hp : Wr wb1 og1' V' n' W) (f : Fr (fun k => k = wb1 ∨ og1 = some k) wr W) (hw : Went og1 og1' wr)
    (hd : Ws wb2 og2' V' n' W') (f2 : Fr (fun k => k = wb2 ∨ og2 = some k) W W') (hw2 : Went og2 og2' W) (hn : n' ≤ 800000000000) : WsI w wb1 wb2 og1' og2' V' n' W' := by
  obtain ⟨k1, k2, k3, k4, k5⟩ := h.go1 hp f hw
  have hs := k5.size
  refine ⟨hp.kept f2 (fun hx => ?_) (fun g hg hx => ?_), hd, h.ne, k2, hw2.ne wb1 h.n21 hp.lt, fun g hg hg2 => ?_, h.h1, h.h2, k4, fun g hg => ?_, Fr.then k5 f2 (fun i hi => ?_), hn⟩
  · rcases hx with e | e
    · exact h.ne e
    · exact h.n21 e
  · rcases hx with e | e
    · exact k2 (by rw [hg, e])
    · exact k3 g hg e
  · rcases hw2 with rfl | ⟨g', rfl, hg'⟩
    · exact k3 g hg hg2
    · injection hg2 with hg2; subst hg2; have := hp.olt _ hg; omega
  · rcases hw2 with rfl | ⟨g', rfl, hg'⟩
    · exact h.h4 g hg
    · injection hg with hg; subst hg; omega
  · rcases hi with rfl | e
    · exact .inr h.h2
    · exact .inr (h.h4 i e)
/-- What both came to. -/
def Both (w : World) (wb1 wb2 : Nat) (n' : Nat) (W : World) : Prop := ∃ og1 og2 V n, n ≤ n' ∧ WsI w wb1 wb2 og1 og2 V n W
/-- Put by both, the cells of the call at hand. -/
theorem WsI.put (h : WsI w wb1 wb2 og1 og2 V n wr) (t : Opn) (go oo I : Nat) (ht : OpC w go oo I t) (hn : n ≤ 700000000000) : ∃ er : Nat, Hid (Calls Try.prog 23 #[.pointer (some ⟨wb1, 0, none⟩), .int .u32 t.v, .int .i64 t.n] wr.drew fun e w1 => e = .returned (.int .i64 er) ∧ w1.cell? ⟨go, oo + I * 4 + 2, none⟩ = some (.int .u32 t.v) ∧ w1.cell? ⟨go, oo + I * 4 + 1, none⟩ = some (.int .i64 t.n) ∧ Hid (Calls Try.prog 24 #[.pointer (some ⟨wb2, 0, none⟩), .int .u32 t.v, .int .i64 t.n] w1 fun e w2 => e = .returned (.int .i64 er) ∧ w2.cell? ⟨go, oo + I * 4 + 2, none⟩ = some (.int .u32 t.v) ∧ w2.cell? ⟨go, oo + I * 4 + 1, none⟩ = some (.int .i64 t.n) ∧ Hid (Both w wb1 wb2 (n + 32) w2))) := by
  have hd := h.keep ((Fr.refl _ wr).drew)
  have hc : ∀ W, Nw w W → W.cell? ⟨go, oo + I * 4 + 2, none⟩ = some (.int .u32 t.v) ∧ W.cell? ⟨go, oo + I * 4 + 1, none⟩ = some (.int .i64 t.n) := fun W hW => ⟨(ht.nw hW).c2, (ht.nw hW).c1⟩
  cases hp : puts t.v t.n with
  | false =>
    refine ⟨1, (bput_no t.v ht.vhi t.n hp wb1 _).mono ?_⟩
    rintro e w1 ⟨rfl, rfl⟩
    obtain ⟨c2, c1⟩ := hc _ hd.nw
    refine ⟨rfl, c2, c1, (sput_no t.v ht.vhi t.n hp wb2 _).mono ?_⟩
    rintro e w2 ⟨rfl, rfl⟩
    exact ⟨rfl, c2, c1, og1, og2, V, n, by omega, hd⟩
  | true =>
    obtain ⟨m, hm, hm32, hv⟩ := puts_yes hp
    rw [hm]
    refine ⟨0, (bput_yes hd.p (by omega) t.v ht.vhi m hm32 hv).mono ?_⟩
    rintro e w1 ⟨rfl, og1', hW, hF, hG⟩
    obtain ⟨k1, k2, k3, k4, k5⟩ := hd.go1 hW hF hG
    obtain ⟨c2, c1⟩ := hc _ k5
    rw [hm] at c1
    refine ⟨rfl, c2, c1, (sput_yes k1 (by omega) t.v ht.vhi m hm32 hv).mono ?_⟩
    rintro e w2 ⟨rfl, og2', hW2, hF2, hG2⟩
    have hI := hd.go2 hW hF hG hW2 hF2 hG2 (by omega)
    obtain ⟨c2, c1⟩ := hc _ hI.nw
    rw [hm] at c1
    exact ⟨rfl, c2, c1, _, _, _, _, by omega, hI⟩
/-- Align by both. -/
theorem WsI.align (h : WsI w wb1 wb2 og1 og2 V n wr) (hn : n ≤ 700000000000) : Hid (Calls Try.prog 25 #[.pointer (some ⟨wb1, 0, none⟩)] wr fun e w1 => (∃ r, e = .returned r) ∧ Hid (Calls Try.prog 26 #[.pointer (some ⟨wb2, 0, none⟩)] w1 fun e w2 => (∃ r, e = .returned r) ∧ Hid (Both w wb1 wb2 (n + 7) w2))) := by
  have hu := up8_ge n
  refine (walign_any h.p (by omega)).mono ?_
  rintro e w1 ⟨he, hW, hF⟩
  have hF' : Fr (fun k => k = wb1 ∨ og1 = some k) wr w1 := hF.mono (fun i hi => .inl (.inl hi))
  obtain ⟨k1, k2, k3, k4, k5⟩ := h.go1 hW hF' (.inl rfl)
  refine ⟨he, (swalign_any k1 (by omega)).mono ?_⟩
  rintro e w2 ⟨he2, og2', hW2, hF2, hG2⟩
  exact ⟨he2, _, _, _, _, by omega, h.go2 hW hF' (.inl rfl) hW2 hF2 hG2 (by omega)⟩
theorem lent_cut {gc cc : Nat} {b : List By} {w1 : World} (hO : Ow gc (.slice (some ⟨gc, 0, none⟩) (b.length + 32) cc) (b ++ marks 32) w1) : SlB gc (.slice (some ⟨gc, 0, none⟩) b.length cc) b w1 ∧ Ow gc (.slice (some ⟨gc, 0, none⟩) b.length cc) b w1 := by
  obtain ⟨c', e, h1, h2, h3⟩ := hO.cut b.length (by rw [List.length_append]; omega)
  injection e with _ _ e
  subst e
  rw [List.take_left] at h3
  exact ⟨h3.slb, h3⟩
/-- Add by both of bytes that were lent, which are written over then. -/
theorem WsI.add (h : WsI w wb1 wb2 og1 og2 V n wr) (vb : Value) (b : List By) (hb : Old w vb b) (hbl : b.length ≤ 1000000000) (hn : n ≤ 700000000000) : Hid (Calls Try.prog 9 #[vb] wr fun e w1 => ∃ gc cc, e = .returned (.tuple #[.slice (some ⟨gc, 0, none⟩) b.length cc, .slice (some ⟨gc, 0, none⟩) (b.length + 32) cc]) ∧ Hid (Calls Try.prog 27 #[.pointer (some ⟨wb1, 0, none⟩), .slice (some ⟨gc, 0, none⟩) b.length cc] w1 fun e w2 => (∃ r, e = .returned r) ∧ Hid (Nw w w2) ∧ Hid (Calls Try.prog 28 #[.pointer (some ⟨wb2, 0, none⟩), vb] w2 fun e w3 => (∃ r, e = .returned r) ∧ Hid (Nw w w3) ∧ Hid (Calls Try.prog 22 #[.slice (some ⟨gc, 0, none⟩) (b.length + 32) cc, vb] w3 fun e w4 => e = .returned (.bool true) ∧ Hid (Calls Try.prog 19 #[.slice (some ⟨gc, 0, none⟩) b.length cc, .int .u8 4] w4 fun e w5 => (∃ r, e = .returned r) ∧ Hid (Both w wb1 wb2 (n + 7 + 8 * b.length) w5)))))) := by
  have hu := up8_ge n
  refine (lent_any wr vb b (hb.later h.nw) (by omega)).mono ?_
  rintro e w1 ⟨gc, cc, rfl, hg, hO, hN⟩
  have h1 := h.keep hN
  have hl1 := h.p.lt
  have hl2 := h.d.lt
  have ho1 := h.p.olt
  have ho2 := h.d.olt
  obtain ⟨hs, hO2⟩ := lent_cut hO
  refine ⟨gc, cc, rfl, (wadd_any h1.p (by have := h.nl; omega) _ b (.inr ⟨gc, by omega, hs⟩) hbl).mono ?_⟩
  rintro e w2 ⟨he2, og1', hW, hF, hG⟩
  obtain ⟨k1, k2, k3, k4, k5⟩ := h1.go1 hW hF hG
  have hgl := hO.lt
  have hOw2 : Ow gc (.slice (some ⟨gc, 0, none⟩) (b.length + 32) cc) (b ++ marks 32) w2 := hO.kept hF (fun hx => by
    rcases hx with e | e
    · omega
    · have := ho1 _ e; omega)
  have hsb : Sl (fun k => k = wb2 ∨ og2 = some k) vb b w2 := (hb.nw k5).mono (fun g hg' => by
    show w.heap.size ≤ g
    rcases hg' with e | e
    · have := h.h2; omega
    · exact h.h4 _ e)
  refine ⟨he2, k5, (swadd_any k1 (by have := h.nl; omega) vb b hsb hbl).mono ?_⟩
  rintro e w3 ⟨he3, og2', hW3, hF3, hG3⟩
  have hI := h1.go2 hW hF hG hW3 hF3 hG3 (by omega)
  have hOw3 : Ow gc (.slice (some ⟨gc, 0, none⟩) (b.length + 32) cc) (b ++ marks 32) w3 := hOw2.kept hF3 (fun hx => by
    rcases hx with e | e
    · omega
    · have := ho2 _ e; omega)
  refine ⟨he3, hI.nw, (kept_any w3 gc cc vb b hOw3 ((hb.nw hI.nw).mono (fun _ h => h.elim)) (by omega)).mono ?_⟩
  rintro e w4 ⟨rfl, hN4⟩
  have hI4 := hI.keep hN4
  obtain ⟨hs4, hO4⟩ := lent_cut (hOw3.nw hN4)
  have hgw := h.nw.size
  have hg1' : og1' ≠ some gc := fun e => by
    rcases hG with rfl | ⟨g', rfl, hg'⟩
    · have := ho1 _ e; omega
    · injection e with e; omega
  have hg2' : og2' ≠ some gc := fun e => by
    rcases hG3 with rfl | ⟨g', rfl, hg'⟩
    · have := ho2 _ e; omega
    · injection e with e; have := hF.size; omega
  have hl4 := hI4.p.lt
  have hfu := full_any (fun k => k ≠ gc ∧ k < w4.heap.size) w4 (fun k hk => hk.2) _ b (.inr ⟨gc, fun hk => hk.1 rfl, hO4⟩) (by omega) 4#8
  refine ⟨rfl, hfu.mono ?_⟩
  rintro e w5 ⟨he5, hF5⟩
  refine ⟨he5, og1', og2', V + le b * 2 ^ up8 n, up8 n + 8 * b.length, by omega, ?_⟩
  refine ⟨hI4.p.kept hF5 (fun hx => hx ⟨by omega, hI4.p.lt⟩) (fun g hg' hx => hx ⟨fun e => hg1' (by rw [← e]; exact hg'), hI4.p.olt _ hg'⟩), hI4.d.kept hF5 (fun hx => hx ⟨by omega, hI4.d.lt⟩) (fun g hg' hx => hx ⟨fun e => hg2' (by rw [← e]; exact hg'), hI4.d.olt _ hg'⟩), hI4.ne, hI4.n12, hI4.n21, hI4.noo, hI4.h1, hI4.h2, hI4.h3, hI4.h4, ?_, hI4.nl⟩
  refine Fr.then hI4.nw hF5 (fun i hi => .inr ?_)
  rcases Nat.lt_or_ge i w.heap.size with hlt | hge
  · exact absurd ⟨by omega, Nat.lt_of_lt_of_le hlt hI4.nw.size⟩ hi
  · exact hge
/-- What is asked behind each call: the bytes are told twice, and are new memory. -/
theorem WsI.tail (h : WsI w wb1 wb2 og1 og2 V n wr) : Hid (Calls Try.prog 29 #[.pointer (some ⟨wb1, 0, none⟩)] wr fun e w1 => ∃ x, e = .returned x ∧ Hid (Calls Try.prog 29 #[.pointer (some ⟨wb1, 0, none⟩)] w1 fun e w2 => ∃ y a c, e = .returned y ∧ w2.cell? ⟨wb2, 0, none⟩ = some (.slice a n c) ∧ n ≤ c ∧ c < 9223372036854775808 ∧ Hid (Calls Try.prog 30 #[.slice a n c] w2 fun e w3 => ∃ z, e = .returned z ∧ w3.cell? ⟨wb2, 0, none⟩ = some (.slice a n c) ∧ Hid (Calls Try.prog 31 #[.pointer (some ⟨wb1, 0, none⟩)] w3.drew fun e w4 => e = .returned (.int .i64 n) ∧ w4.cell? ⟨wb2, 0, none⟩ = some (.slice a n c) ∧ Hid (Calls Try.prog 18 #[x, z] w4 fun e w5 => e = .returned (.bool true) ∧ w5.cell? ⟨wb2, 0, none⟩ = some (.slice a n c) ∧ Hid (Calls Try.prog 18 #[y, z] w5 fun e w6 => e = .returned (.bool true) ∧ w6.cell? ⟨wb2, 0, none⟩ = some (.slice a n c) ∧ Hid (Calls Try.prog 19 #[x, .int .u8 5] w6 fun e w7 => (∃ r, e = .returned r) ∧ Hid (Calls Try.prog 18 #[y, z] w7 fun e w8 => e = .returned (.bool true) ∧ Hid (Calls Try.prog 29 #[.pointer (some ⟨wb1, 0, none⟩)] w8 fun e w9 => ∃ u, e = .returned u ∧ Hid (Calls Try.prog 18 #[u, z] w9 fun e w10 => e = .returned (.bool true) ∧ Hid (WsI w wb1 wb2 og1 og2 V n w10))))))))))) := by
  have hnl := h.nl
  have hll : (lows V ((n + 7) / 8)).length ≤ 140737488351232 := by rw [lows_length]; omega
  have any : ∀ {K : Nat → Prop} {v : Value} {W : World}, Mine K v (lows V ((n + 7) / 8)) W → Sl (fun _ => False) v (lows V ((n + 7) / 8)) W := fun hm => hm.sl.mono (fun _ h => h.elim)
  refine (wdone_any h.p (by omega)).mono ?_
  rintro e w1 ⟨x, rfl, hMx, hN1⟩
  have h1 := h.keep hN1
  refine ⟨x, rfl, (wdone_any h1.p (by omega)).mono ?_⟩
  rintro e w2 ⟨y, rfl, hMy, hN2⟩
  have h2 := h1.keep hN2
  obtain ⟨a, c, x0, x1, x2, x3, x4⟩ := h2.d.cells
  have x0k : ∀ {W : World}, Nw w2 W → W.cell? ⟨wb2, 0, none⟩ = some (.slice a n c) := fun hW => hW.cell x0
  refine ⟨y, a, c, rfl, x0, x2, x3, (sBytes_any w2 _ V n h2.d.vl (x4.sl.mono (fun _ h => h.elim)) (by omega)).mono ?_⟩
  rintro e w3 ⟨gz, cz, rfl, hgz, hOz, hN3⟩
  have h3 := h2.keep hN3
  have h3d := h3.keep ((Fr.refl _ w3).drew)
  have hMx3 : Mine (fun k => k < wr.heap.size) x (lows V ((n + 7) / 8)) w3.drew := ((hMx.nw hN2).nw hN3).nw ((Fr.refl _ w3).drew)
  have hMy3 : Mine (fun k => k < w1.heap.size) y (lows V ((n + 7) / 8)) w3.drew := (hMy.nw hN3).nw ((Fr.refl _ w3).drew)
  have hOz3 : Ow gz (.slice (some ⟨gz, 0, none⟩) (lows V ((n + 7) / 8)).length cz) (lows V ((n + 7) / 8)) w3.drew := hOz.nw ((Fr.refl _ w3).drew)
  have hzs : ∀ {W : World}, Nw w3.drew W → Sl (fun _ => False) (.slice (some ⟨gz, 0, none⟩) (lows V ((n + 7) / 8)).length cz) (lows V ((n + 7) / 8)) W := fun hW => (hOz3.nw hW).old.mono (fun _ h => h.elim)
  refine ⟨_, rfl, x0k hN3, (wlen_any h3d.p).mono ?_⟩
  rintro e w4 ⟨rfl, rfl⟩
  refine ⟨rfl, x0k (hN3.trans ((Fr.refl _ w3).drew)), (same_any _ x _ _ _ (any hMx3) (hzs (Fr.refl _ _)) hll hll).mono ?_⟩
  rintro e w5 ⟨rfl, hN5⟩
  refine ⟨by simp, x0k ((hN3.trans ((Fr.refl _ w3).drew)).trans hN5), (same_any _ y _ _ _ (any (hMy3.nw hN5)) (hzs hN5) hll hll).mono ?_⟩
  rintro e w6 ⟨rfl, hN6⟩
  have hN56 := hN5.trans hN6
  have h6 := h3d.keep hN56
  have hs1 := hN1.size
  have hs2 := hN2.size
  have hs3 := hN3.size
  have hs6 := hN56.size
  have hds : w3.drew.heap.size = w3.heap.size := rfl
  have hMx6 : Mine (fun k => k < wr.heap.size ∨ w1.heap.size ≤ k ∧ k < w6.heap.size) x (lows V ((n + 7) / 8)) w6 := by
    have : Mine (fun k => k < wr.heap.size ∨ w1.heap.size ≤ k ∧ k < w6.heap.size) x (lows V ((n + 7) / 8)) w1 := hMx.more (fun g hg => by
      rcases hg with h | h
      · exact .inl h
      · exact .inr h.1)
    exact this.nw ((hN2.trans hN3).trans (((Fr.refl _ w3).drew).trans hN56))
  have hfu := full_any (fun k => k < wr.heap.size ∨ w1.heap.size ≤ k ∧ k < w6.heap.size) w6 (fun k hk => by
    rcases hk with h | h
    · omega
    · exact h.2) x _ hMx6 (by omega) 5#8
  refine ⟨by simp, x0k ((hN3.trans ((Fr.refl _ w3).drew)).trans hN56), hfu.mono ?_⟩
  rintro e w7 ⟨he7, hF7⟩
  have hp7 := h.p.lt
  have hd7 := h.d.lt
  have h7 : WsI w wb1 wb2 og1 og2 V n w7 := by
    refine ⟨h6.p.kept hF7 (fun hx => hx (.inl hp7)) (fun g hg hx => hx (.inl (h.p.olt _ hg))), h6.d.kept hF7 (fun hx => hx (.inl hd7)) (fun g hg hx => hx (.inl (h.d.olt _ hg))), h6.ne, h6.n12, h6.n21, h6.noo, h6.h1, h6.h2, h6.h3, h6.h4, Fr.then h6.nw hF7 (fun i hi => .inr ?_), h6.nl⟩
    rcases Nat.lt_or_ge i w.heap.size with hlt | hge
    · exact absurd (.inl (Nat.lt_of_lt_of_le hlt h.nw.size)) hi
    · exact hge
  have hy7 : Sl (fun _ => False) y (lows V ((n + 7) / 8)) w7 := by
    have hm : Mine (fun k => k < w1.heap.size) y (lows V ((n + 7) / 8)) w6 := hMy3.nw hN56
    rcases hm with h | ⟨g, hg, hO⟩
    · exact .inl ⟨none, h.1, h.2⟩
    · exact ((hO.kept hF7 (fun hx => hx (.inr ⟨by omega, hO.lt⟩))).old).mono (fun _ h => h.elim)
  have hz7 : Ow gz (.slice (some ⟨gz, 0, none⟩) (lows V ((n + 7) / 8)).length cz) (lows V ((n + 7) / 8)) w7 := (hOz3.nw hN56).kept hF7 (fun hx => hx (.inr ⟨by omega, (hOz3.nw hN56).lt⟩))
  refine ⟨he7, (same_any _ y _ _ _ hy7 (hz7.old.mono (fun _ h => h.elim)) hll hll).mono ?_⟩
  rintro e w8 ⟨rfl, hN8⟩
  have h8 := h7.keep hN8
  refine ⟨by simp, (wdone_any h8.p (by omega)).mono ?_⟩
  rintro e w9 ⟨u, rfl, hMu, hN9⟩
  refine ⟨u, rfl, (same_any _ u _ _ _ (any hMu) (((hz7.nw hN8).nw hN9).old.mono (fun _ h => h.elim)) hll hll).mono ?_⟩
  rintro e w10 ⟨rfl, hN10⟩
  exact ⟨by simp, (h8.keep hN9).keep hN10⟩
end Go.Proofs.Ytkpkiajehclbhaa

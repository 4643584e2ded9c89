import Derived.Test.YtincbbnppcpfpaaDoorTcf
import Derived.Test.YtincbbnppcpfpaaDoorTci
import Derived.Test.YtincbbnppcpfpaaDoorTay
import Derived.Test.YtincbbnppcpfpaaDoorTbg
import Derived.BigRegion
namespace Go.Proofs.YtincbbnppcpfpaaDoor
open Go.RowKit
set_option linter.unusedVariables false
variable {sb ga cg most p er : Nat} {b out : List By} {og : Option Nat} {vo : Value} {w : World} {ls : List Nat}
/-- bits, told exactly. -/
theorem hbits_ex (h : DsI sb ga cg b most p og vo out 0 w) (n : Nat) (hn : n ≤ 16) : Calls Tryd.prog 36 #[.pointer (some ⟨sb, 0, none⟩), .int .i64 n] w fun e w' => ∃ x p' er', e = .returned (.int .i64 (x : Nat)) ∧ x < 2 ^ n ∧ Hid (DsI sb ga cg b most p' og vo out er' w' ∧ Fr (fun k => k = sb) w w' ∧ ((er' ≠ 0 ∧ p ≤ p' ∧ takeR n (bt b p) = .bad er') ∨ (er' = 0 ∧ p' = p + n ∧ takeR n (bt b p) = .ok (x, bt b p')))) := by
  refine (hbits_any h n hn (takeR n (bt b p)) retR (.inr ⟨rfl, ?_⟩)).mono ?_
  · unfold bindR retR
    cases takeR n (bt b p) with
    | bad e => rfl
    | ok r => rfl
  · rintro e w' ⟨x, p', er', rfl, hx, hp, H⟩
    obtain ⟨d, f, c⟩ := H.out
    refine ⟨x, p', er', rfl, hx, d, f, ?_⟩
    by_cases he : er' = 0
    · subst he
      have hg := c.good
      refine .inr ⟨rfl, ?_, hg⟩
      have hpl := d.pl
      by_cases hs : 8 * b.length - p < n
      · rw [takeR_bad hs] at hg; simp [retR] at hg
      · rw [takeR_good hs] at hg
        simp only [retR, Rz.ok.injEq, Prod.mk.injEq] at hg
        have h2 := congrArg Bt.n hg.2
        rw [bt_n, bt_n] at h2
        omega
    · exact .inl ⟨he, hp, c.bad he⟩
set_option maxHeartbeats 8000000 in
theorem hsymbols_err (h : DsI sb ga cg b most p og vo out er w) (he : er ≠ 0) (a1 a2 : Option Addr) (n1 c1 n2 c2 : Nat) : Calls Tryd.prog 38 #[.pointer (some ⟨sb, 0, none⟩), .slice a1 n1 c1, .slice a2 n2 c2] w fun e w' => (∃ r, e = .returned r) ∧ w = w' := by
  obtain ⟨P, hP⟩ : ∃ P : Ending → World → Prop, P = fun e w' => (∃ r, e = .returned r) ∧ w = w' := ⟨_, rfl⟩
  rw [← hP]
  have x4 := (ds4 h).1
  have HF : Hid (∀ r, P (.returned r) w) := fun r => by rw [hP]; exact ⟨⟨_, rfl⟩, rfl⟩
  have hz := ne0' he
  have hz2 := ne0 he
  clear hP h
  go_enter Tryd.func38, Tryd.ntmps38
  go_wp2_with fail
  go_loopg [] 1 (fun kx wz => wz = w)
  case atStart => rfl
  case round =>
    obtain rfl := hrel
    go_wp2_with fail
    go_end0
    exact HF.out _
/-- How Read's loop stands. -/
def RdD (sb ga cg : Nat) (b : List By) (most : Nat) (RES : Sx × Bt × Nat) (w1 : World) (kx last er : Nat) (wr : World) : Prop :=
  ∃ p og vo out, DsI sb ga cg b most p og vo out er wr ∧ (∀ g, og = some g → w1.heap.size ≤ g) ∧ Fr (fun k => k = sb) w1 wr ∧ Lo sb ga none w1 ∧ ((er ≠ 0 ∧ RES.2.2 = er ∧ RES.1.out = out) ∨ (er = 0 ∧ last = 0 ∧ 8 * b.length - p + 1 ≤ kx ∧ ∃ s, s.md = 0 ∧ s.out = out ∧ RES = run most s (bt b p)) ∨ (er = 0 ∧ last ≠ 0 ∧ BlkE b most RES true out p))
theorem step_head {s : Sx} (h : s.md = 0) (t : Bt) : stepR most s t = headR most s t := by
  unfold stepR
  rw [if_pos h]
/-- Behind a block. -/
theorem RdD.blk {RES : Sx × Bt × Nat} {w1 wr w2 : World} {kx l p2 : Nat} {e : Ending} (hl : l < 2) (d : DsI sb ga cg b most p og vo out 0 wr) (hog : ∀ g, og = some g → w1.heap.size ≤ g) (fr : Fr (fun k => k = sb) w1 wr) (hlo : Lo sb ga none w1) (hkx : 8 * b.length - p ≤ kx) (h : SlA sb ga cg b most p og (decide (l = 1)) RES wr e w2) : ∃ er', w2.cell? ⟨sb, 4, none⟩ = some (.int .i64 (er' : Nat)) ∧ RdD sb ga cg b most RES w1 (kx + 1) l er' w2 := by
  obtain ⟨_, H⟩ := h
  obtain ⟨p', er', og', vo', out', h1, h2, h3, h4, h5⟩ := H.out
  refine ⟨er', (ds4 h2).1, p', og', vo', out', h2, fun g hg => ?_, ?_, hlo, ?_⟩
  · rcases h3 with e | ⟨g', e, hg'⟩
    · exact hog g (by rw [← e]; exact hg)
    · rw [e] at hg; injection hg with hg; subst hg; exact Nat.le_trans fr.size hg'
  · exact Fr.then fr h4 (fun i hi => by
      rcases hi with hi | hi
      · exact .inl hi
      · exact .inr (hog i hi))
  · rcases h5 with h5 | ⟨h5, h6⟩
    · exact .inl h5
    · by_cases hl1 : l = 1
      · rw [decide_eq_true hl1] at h6
        exact .inr (.inr ⟨h5, by omega, h6⟩)
      · rw [decide_eq_false hl1] at h6
        rcases h6 with ⟨h6, _⟩ | ⟨_, s', q1, q2, q3⟩
        · cases h6
        · exact .inr (.inl ⟨h5, by omega, by omega, s', q1, q2, q3⟩)
/-- What Read answers. -/
def RdA (b : List By) (most : Nat) (w : World) (e : Ending) (w' : World) : Prop := ∃ vo og p er, e = .returned (.agg #[vo, .int .i64 (p : Nat), .int .i64 (er : Nat)]) ∧ Hid (er = (rf most b).2.2 ∧ Og og vo (rf most b).1.out w' ∧ (∀ g, og = some g → w.heap.size ≤ g) ∧ Nw w w' ∧ p ≤ 8 * b.length ∧ (er = 0 → (p + 7) / 8 = b.length - ((rf most b).2.1.n + 7) / 8))
theorem rdret {R : Ending → World → Prop} {a : Act} {w : World} {v0 v1 v2 : Value} (rb : Nat) (h1 : a.tmps.getD 4 undef = .pointer (some ⟨rb, 0, none⟩)) (hrow : w.heap[rb]? = some (.cells #[v0, v1, v2] 64)) (hd : a.defers = []) (hR : R (.returned (.agg #[v0, v1, v2])) w) : bodyPost Tryd.prog Tryd.f25 R .ret a w := by
  have hi : (Tryd.prog.info? 64).map (·.size) = some (#[v0, v1, v2] : Array Value).size := by kernel_rfl
  have hl := run_loadVar_row (P := Tryd.prog) w rb 64 64 #[v0, v1, v2] (0, 0) _ hrow Tryd.underlying64 rfl hi
  have hp' : a.tmps[4]?.getD undef = .pointer (some ⟨rb, 0, none⟩) := by simpa using h1
  refine bodyPost_ret ?_ hd hR
  simp [results, hp', asAddr, hl]
/-- A head: the two numbers, and what comes of them. -/
theorem rd_head {RES : Sx × Bt × Nat} {w1 wr : World} {kx : Nat} (h : RdD sb ga cg b most RES w1 kx 0 0 wr) :
    Calls Tryd.prog 36 #[.pointer (some ⟨sb, 0, none⟩), .int .i64 1] wr fun e w2 => ∃ l : Nat, e = .returned (.int .i64 l) ∧ Hid (Calls Tryd.prog 36 #[.pointer (some ⟨sb, 0, none⟩), .int .i64 2] w2 fun e w3 => ∃ k er : Nat, e = .returned (.int .i64 k) ∧ w3.cell? ⟨sb, 4, none⟩ = some (.int .i64 (er : Nat)) ∧ w3.frozen? ⟨sb, 4, none⟩ = false ∧ (er ≠ 0 → Hid (RdD sb ga cg b most RES w1 (kx - 1) l er w3)) ∧
      (er = 0 → k = 0 → Hid (Calls Tryd.prog 37 #[.pointer (some ⟨sb, 0, none⟩)] w3 fun e w4 => (∃ r, e = .returned r) ∧ Hid (∃ er', w4.cell? ⟨sb, 4, none⟩ = some (.int .i64 (er' : Nat)) ∧ RdD sb ga cg b most RES w1 (kx - 1) l er' w4))) ∧
      (er = 0 → k = 1 → Hid (Calls Tryd.prog 39 #[] w3 fun e w4 => ∃ a1 c1 a2 c2, e = .returned (.tuple #[.slice a1 288 c1, .slice a2 32 c2]) ∧ Hid (Calls Tryd.prog 38 #[.pointer (some ⟨sb, 0, none⟩), .slice a1 288 c1, .slice a2 32 c2] w4 fun e w5 => (∃ r, e = .returned r) ∧ Hid (∃ er', w5.cell? ⟨sb, 4, none⟩ = some (.int .i64 (er' : Nat)) ∧ RdD sb ga cg b most RES w1 (kx - 1) l er' w5)))) ∧
      (er = 0 → k = 2 → Hid (Calls Tryd.prog 40 #[.pointer (some ⟨sb, 0, none⟩)] w3 fun e w4 => ∃ a1 n1 c1 a2 n2 c2, e = .returned (.tuple #[.slice a1 n1 c1, .slice a2 n2 c2]) ∧ Hid (Calls Tryd.prog 38 #[.pointer (some ⟨sb, 0, none⟩), .slice a1 n1 c1, .slice a2 n2 c2] w4 fun e w5 => (∃ r, e = .returned r) ∧ Hid (∃ er', w5.cell? ⟨sb, 4, none⟩ = some (.int .i64 (er' : Nat)) ∧ RdD sb ga cg b most RES w1 (kx - 1) l er' w5)))) ∧
      (er = 0 → k ≠ 0 → k ≠ 1 → k ≠ 2 → Hid ((w3.setCell ⟨sb, 4, none⟩ (.int .i64 60)).cell? ⟨sb, 4, none⟩ = some (.int .i64 (60 : Nat)) ∧ RdD sb ga cg b most RES w1 (kx - 1) l 60 (w3.setCell ⟨sb, 4, none⟩ (.int .i64 60))))) := by
  obtain ⟨p, og, vo, out, d, hog, fr, hlo, hst⟩ := h
  obtain ⟨hkx, s, s1, s2, s3⟩ : 8 * b.length - p + 1 ≤ kx ∧ ∃ s, s.md = 0 ∧ s.out = out ∧ RES = run most s (bt b p) := by
    rcases hst with ⟨h, _⟩ | ⟨_, _, h, h'⟩ | ⟨_, h, _⟩
    · exact absurd rfl h
    · exact ⟨h, h'⟩
    · exact absurd rfl h
  subst s2
  clear hst
  have hm3 : s.md ≠ 3 := by omega
  have hh := step_head (most := most) s1 (bt b p)
  rw [headR] at hh
  -- an error on the way
  have HER : ∀ l er p' W, er ≠ 0 → stepR most s (bt b p) = .bad er → DsI sb ga cg b most p' og vo s.out er W → Fr (fun k => k = sb) wr W → RdD sb ga cg b most RES w1 (kx - 1) l er W := fun l er p' W h1 h2 h3 h4 => by
    obtain ⟨q1, q2⟩ := run_err hm3 h2
    rw [← s3] at q1 q2
    exact ⟨p', og, vo, s.out, h3, hog, fr.trans h4, hlo, .inl ⟨h1, q1, q2⟩⟩
  refine (hbits_ex d 1 (by omega)).mono ?_
  rintro e w2 ⟨l, p2, er2, rfl, hl, H2⟩
  obtain ⟨d2, f2, c2⟩ := H2.out
  refine ⟨l, rfl, ?_⟩
  show Calls _ _ _ _ _
  rcases c2 with ⟨he2, hp2, c2⟩ | ⟨rfl, rfl, c2⟩
  · refine (hbits_err d2 he2 2).mono ?_
    rintro e w3 ⟨rfl, rfl⟩
    refine ⟨0, er2, rfl, (ds4 d2).1, (ds4 d2).2, fun _ => ?_, fun e => absurd e he2, fun e => absurd e he2, fun e => absurd e he2, fun e => absurd e he2⟩
    exact HER l er2 p2 w2 he2 (by rw [hh, bindR_bad c2]) d2 f2
  rw [bindR_eq c2] at hh
  refine (hbits_ex d2 2 (by omega)).mono ?_
  rintro e w3 ⟨k, p3, er3, rfl, hk, H3⟩
  obtain ⟨d3, f3, c3⟩ := H3.out
  have f23 := f2.trans f3
  rcases c3 with ⟨he3, hp3, c3⟩ | ⟨rfl, rfl, c3⟩
  · exact ⟨k, er3, rfl, (ds4 d3).1, (ds4 d3).2, fun _ => HER l er3 p3 w3 he3 (by rw [hh, bindR_bad c3]) d3 f23, fun e => absurd e he3, fun e => absurd e he3, fun e => absurd e he3, fun e => absurd e he3⟩
  rw [bindR_eq c3] at hh
  have hpl3 := d3.pl
  have f13 : Fr (fun k => k = sb) w1 w3 := fr.trans f23
  have hl2 : l < 2 := hl
  have hk1 : kx - 1 = kx - 2 + 1 ∨ kx ≤ 1 := by omega
  have BLK : ∀ W p4 og4 vo4 out4 e w5, DsI sb ga cg b most p4 og4 vo4 out4 0 W → (∀ g, og4 = some g → w1.heap.size ≤ g) → Fr (fun k => k = sb) w1 W → p + 3 ≤ p4 → SlA sb ga cg b most p4 og4 (decide (l = 1)) RES W e w5 → ∃ er', w5.cell? ⟨sb, 4, none⟩ = some (.int .i64 (er' : Nat)) ∧ RdD sb ga cg b most RES w1 (kx - 1) l er' w5 := fun W p4 og4 vo4 out4 e w5 q1 q2 q3 q4 q5 => by
    have hpl4 := q1.pl
    have := RdD.blk (p2 := 0) (kx := kx - 2) hl2 q1 q2 q3 hlo (by omega) q5
    rw [show kx - 2 + 1 = kx - 1 by omega] at this
    exact this
  refine ⟨k, 0, rfl, (ds4 d3).1, (ds4 d3).2, fun e => absurd rfl e, fun _ hk0 => ?_, fun _ hk0 => ?_, fun _ hk0 => ?_, fun _ k0 k1 k2 => ?_⟩
  · rw [if_pos hk0] at hh
    show Calls _ _ _ _ _
    refine (hstored_any s { s with lst := decide (l = 1) } (bt b p) hm3 rfl d3 hh).mono ?_
    intro e w4 hA
    rw [← s3] at hA
    exact ⟨hA.1, BLK w3 _ _ _ _ e w4 d3 hog f13 (by omega) hA⟩
  · rw [if_neg (by omega), if_pos hk0] at hh
    have hh' : stepR most s (bt b p) = .ok ({ s with lst := decide (l = 1), md := 2, la := fixA, lb := fixB }, bt b (p + 1 + 2)) := hh
    have hr := run_ok hm3 hh'
    rw [← s3] at hr
    show Calls _ _ _ _ _
    refine (gfixed_any w3).mono ?_
    rintro e w4 ⟨a1, c1, a2, c2', rfl, H4⟩
    obtain ⟨q1, q2, q3⟩ := H4.out
    refine ⟨a1, c1, a2, c2', rfl, ?_⟩
    show Calls _ _ _ _ _
    have hlo3 := d3.lo
    have hx : ∀ g, (w4.heap.size ≤ g ∨ g = sb ∨ og = some g) → (g < w3.heap.size ∨ w4.heap.size ≤ g) := fun g hg => by
      rcases hg with hg | hg | hg
      · exact .inr hg
      · exact .inl (by rw [hg]; exact hlo3.1)
      · exact .inl (hlo3.2.2 g hg)
    refine (hsymbols_any { s with lst := decide (l = 1), md := 2, la := fixA, lb := fixB } rfl (d3.nw q3) _ _ (q1.mono hx) (q2.mono hx) cod_fixA cod_fixB.each (by show fixB.length ≤ 320; unfold fixB; rw [List.length_replicate]; omega) (.inr cod_fixB)).mono ?_
    intro e w5 hA
    rw [← hr] at hA
    exact ⟨hA.1, BLK w4 _ _ _ _ e w5 (d3.nw q3) hog (f13.trans q3.any) (by omega) hA⟩
  · rw [if_neg (by omega), if_neg (by omega), if_pos hk0] at hh
    show Calls _ _ _ _ _
    refine (hown_any d3 _ rfl).mono ?_
    rintro e w4 ⟨a1, n1, c1, a2, n2, c2', rfl, H4⟩
    obtain ⟨p4, er4, q1, q2, q3, q4⟩ := H4.out
    refine ⟨a1, n1, c1, a2, n2, c2', rfl, ?_⟩
    show Calls _ _ _ _ _
    rcases q4 with ⟨he4, q4⟩ | ⟨rfl, la, lb, q4, q5, q6, q7, q8, q9, q10⟩
    · refine (hsymbols_err q2 he4 _ _ _ _ _ _).mono ?_
      rintro e w5 ⟨hr, rfl⟩
      exact ⟨hr, er4, (ds4 q2).1, HER l er4 p4 w4 he4 (by rw [hh, bindR_bad q4]) q2 (f23.trans q3)⟩
    · rw [bindR_eq q4] at hh
      have hh' : stepR most s (bt b p) = .ok ({ s with lst := decide (l = 1), md := 2, la := la, lb := lb }, bt b p4) := hh
      have hr := run_ok hm3 hh'
      rw [← s3] at hr
      have hlo3 := d3.lo
      have hx : ∀ g, (w4.heap.size ≤ g ∨ g = sb ∨ og = some g) → (g < w3.heap.size ∨ w4.heap.size ≤ g) := fun g hg => by
        rcases hg with hg | hg | hg
        · exact .inr hg
        · exact .inl (by rw [hg]; exact hlo3.1)
        · exact .inl (hlo3.2.2 g hg)
      refine (hsymbols_any { s with lst := decide (l = 1), md := 2, la := la, lb := lb } rfl q2 _ _ (q5.mono hx) (q6.mono hx) q7 q8 q9 q10).mono ?_
      intro e w5 hA
      rw [← hr] at hA
      exact ⟨hA.1, BLK w4 _ _ _ _ e w5 q2 hog (f13.trans q3) (by omega) hA⟩
  · rw [if_neg k0, if_neg k1, if_neg k2] at hh
    obtain ⟨j1, j2⟩ := d3.setE 60 60 rfl
    exact ⟨(ds4 j1).1, HER l 60 _ _ (by decide) hh j1 (f23.trans j2)⟩
end Go.Proofs.YtincbbnppcpfpaaDoor

namespace Go.Proofs.YtincbbnppcpfpaaDoor
open Go.RowKit
set_option linter.unusedVariables false
theorem toHid {p : Prop} (h : p) : Hid p := h
theorem three_set {w : World} {rb T : Nat} {x0 x1 x2 : Value} (v0 v1 v2 : Value) (h : w.heap[rb]? = some (.cells #[x0, x1, x2] T)) : (((w.setCell ⟨rb, 0, none⟩ v0).setCell ⟨rb, 1, none⟩ v1).setCell ⟨rb, 2, none⟩ v2).heap[rb]? = some (.cells #[v0, v1, v2] T) := by
  have h1 : (w.setCell ⟨rb, 0, none⟩ v0).heap[rb]? = some (.cells #[v0, x1, x2] T) := row_set h 0 v0
  have h2 : ((w.setCell ⟨rb, 0, none⟩ v0).setCell ⟨rb, 1, none⟩ v1).heap[rb]? = some (.cells #[v0, v1, x2] T) := row_set h1 1 v1
  exact row_set h2 2 v2
theorem three_fr (w : World) (rb : Nat) (v0 v1 v2 : Value) : Fr (fun k => k = rb) w (((w.setCell ⟨rb, 0, none⟩ v0).setCell ⟨rb, 1, none⟩ v1).setCell ⟨rb, 2, none⟩ v2) := by
  have h1 : Fr (fun k => k = rb) w (w.setCell ⟨rb, 0, none⟩ v0) := (Fr.refl _ _).setCell _ _ (.inl rfl)
  have h2 : Fr (fun k => k = rb) w ((w.setCell ⟨rb, 0, none⟩ v0).setCell ⟨rb, 1, none⟩ v1) := h1.setCell _ _ (.inl rfl)
  exact h2.setCell _ _ (.inl rfl)
/-- The state as Read makes it. -/
theorem dsi_new {w2 : World} {ga cg most : Nat} {b : List By} (hO : Ow ga (.slice (some ⟨ga, 0, none⟩) (8 * b.length) cg) (bl (le b) (8 * b.length)) w2) (hbl : b.length ≤ 1099511627776) (hm : most ≤ 4194304) : DsI w2.heap.size ga cg b most 0 none (.slice none 0 0) [] 0 (w2.alloc (.cells (drow ga cg b.length 0 (.slice none 0 0) most 0) 79)) := by
  have hN : Nw w2 (w2.alloc (.cells (drow ga cg b.length 0 (.slice none 0 0) most 0) 79)) := (Fr.refl _ _).alloc _
  have hlt := hO.lt
  obtain ⟨xs, e, h2, h3, h4, h5⟩ := hO
  injection e with _ _ e
  refine ⟨new_heap _ _, ?_, Nat.lt_of_lt_of_le hlt hN.size, ?_, by omega, ⟨rfl, rfl⟩, Nat.zero_le _, by omega, fun g h => (by cases h), hbl, hm, Nat.zero_le _⟩
  · have hr := (h5.rd.take (bl (le b) (8 * b.length)).length)
    rw [h2] at hr
    exact hr.nw hN
  · rw [bl_length] at h3; omega
set_option maxHeartbeats 16000000 in
set_option maxRecDepth 100000 in
theorem gread_any (w : World) (vb : Value) (b : List By) (most : Nat) (hb : Sl (fun _ => False) vb b w) (hbl : b.length ≤ 1099511627776) (hm : most ≤ 4194304) : Calls Tryd.prog 25 #[vb, .int .i64 most] w (RdA b most w) := by
  obtain ⟨P, hP⟩ : ∃ P, P = RdA b most w := ⟨_, rfl⟩
  rw [← hP]
  have HP : Hid (P = RdA b most w) := hP
  have HB : Hid (∀ V, Nw w V → Calls Tryd.prog 35 #[vb] V fun e w2 => ∃ ga cg, e = .returned (.slice (some ⟨ga, 0, none⟩) (8 * b.length) cg) ∧ Hid (Nw V w2 ∧ Ow ga (.slice (some ⟨ga, 0, none⟩) (8 * b.length) cg) (bl (le b) (8 * b.length)) w2)) := fun V hV => by
    refine (sBits_any V vb b (hb.nw hV) hbl).mono ?_
    rintro e w2 ⟨g, c, rfl, h1, h2, h3⟩
    rw [bl_length] at h2
    exact ⟨g, c, by rw [bl_length], h3, h2⟩
  obtain ⟨ab, cb, rfl, _⟩ := hb.form
  have hzL : 8 * b.length ≤ 8796093022208 := by omega
  have HM : Hid (b.length ≤ 1099511627776 ∧ most ≤ 4194304) := ⟨hbl, hm⟩
  obtain ⟨N8, hN8⟩ : ∃ N8, N8 = 8 * b.length := ⟨_, rfl⟩
  rw [← hN8] at HB hzL
  have HN8 : Hid (N8 = 8 * b.length) := hN8
  clear hP hb hbl hm hN8
  generalize b.length = L at HB ⊢
  go_enter Tryd.func25, Tryd.ntmps25
  go_upto_region 1 with fail
  have hNa : Nw w (w.alloc (.cells #[.slice none 0 0, .int .i64 0, .int .i64 0] 64)) := (Fr.refl _ _).alloc _
  have hra : (w.alloc (.cells #[.slice none 0 0, .int .i64 0, .int .i64 0] 64)).heap[w.heap.size]? = some (.cells #[.slice none 0 0, .int .i64 0, .int .i64 0] 64) := new_heap _ _
  generalize w.alloc (.cells #[.slice none 0 0, .int .i64 0, .int .i64 0] 64) = Wa at *
  have HRW : Hid (w.heap.size ≤ w.heap.size) := Nat.le_refl _
  obtain ⟨rb, hrb⟩ : ∃ rb, rb = w.heap.size := ⟨_, rfl⟩
  rw [← hrb] at hra ⊢
  have HRB : Hid (rb = w.heap.size) := hrb
  clear hrb HRW
  go_upto_region 2 with (first | (go_at_call 35; (with_reducible refine (HB.out _ hNa).mono ?_); rintro e w2 ⟨ga, cg, rfl, H2⟩))
  obtain ⟨hN2, hO2⟩ := H2.out
  have d0 : DsI w2.heap.size ga cg b most 0 none (.slice none 0 0) [] 0 (w2.alloc (.cells #[.slice (some ⟨ga, 0, none⟩) N8 cg, .int .i64 0, .slice none 0 0, .int .i64 most, .int .i64 0] 79)) := by
    have h1 : Ow ga (.slice (some ⟨ga, 0, none⟩) (8 * b.length) cg) (bl (le b) (8 * b.length)) w2 := by rw [← HN8.out]; exact hO2
    have := dsi_new h1 HM.out.1 HM.out.2
    unfold drow at this
    rw [← HN8.out] at this
    exact this
  have hN3 : Nw w2 (w2.alloc (.cells #[.slice (some ⟨ga, 0, none⟩) N8 cg, .int .i64 0, .slice none 0 0, .int .i64 most, .int .i64 0] 79)) := (Fr.refl _ _).alloc _
  have hrow3 := hN3.heap (hN2.heap hra)
  have hrsb : rb ≠ w2.heap.size := by
    have := (Array.getElem?_eq_some_iff.1 (hN2.heap hra)).1
    omega
  have hNW : Nw w (w2.alloc (.cells #[.slice (some ⟨ga, 0, none⟩) N8 cg, .int .i64 0, .slice none 0 0, .int .i64 most, .int .i64 0] 79)) := (hNa.trans hN2).trans hN3
  have hsbw : w.heap.size ≤ w2.heap.size := (hNa.trans hN2).size
  generalize w2.alloc (.cells #[.slice (some ⟨ga, 0, none⟩) N8 cg, .int .i64 0, .slice none 0 0, .int .i64 most, .int .i64 0] 79) = W3 at *
  generalize w2.heap.size = sb at *
  have hx0 := (ds4 d0).1
  have HI0 : Hid (RdD sb ga cg b most (rf most b) W3 (N8 + 1) 0 0 W3) := ⟨0, none, _, [], d0, fun g h => (by cases h), Fr.refl _ _, d0.lo, .inr (.inl ⟨rfl, rfl, by rw [HN8.out]; omega, ini, rfl, rfl, rfl⟩)⟩
  -- the end
  have HE : Hid (∀ V kx last er, RdD sb ga cg b most (rf most b) W3 kx last er V → (er ≠ 0 ∨ last ≠ 0) → ∃ vo p, V.cell? ⟨sb, 2, none⟩ = some vo ∧ V.cell? ⟨sb, 1, none⟩ = some (.int .i64 (p : Nat)) ∧ (∃ a n c, vo = .slice a n c) ∧ V.heap[rb]? = some (.cells #[.slice none 0 0, .int .i64 0, .int .i64 0] 64) ∧ Hid (∀ U, Fr (fun k => k = rb) V U → P (.returned (.agg #[vo, .int .i64 (p : Nat), .int .i64 (er : Nat)])) U)) := fun V kx last er h hel => by
    obtain ⟨p, og, vo, out, d, hog, fr, hlo, hst⟩ := h
    obtain ⟨a, c, e1, _⟩ := d.ho.form
    refine ⟨vo, p, (ds2 d).1, (ds1 d).1, ⟨a, _, c, e1⟩, row_kept hrow3 fr hrsb, fun U hU => ?_⟩
    rw [HP.out]
    have hrbw : rb = w.heap.size := HRB.out
    refine ⟨vo, og, p, er, rfl, ?_, ?_, fun g hg => Nat.le_trans (Nat.le_trans (Nat.le_refl _) hNW.size) (hog g hg), ?_, d.pl, ?_⟩
    · rcases hst with ⟨_, h, _⟩ | ⟨h1, h2, _⟩ | ⟨h1, _, h⟩
      · exact h.symm
      · rcases hel with h | h
        · exact absurd h1 h
        · exact absurd h2 h
      · rcases h with ⟨_, h, _⟩ | ⟨h, _⟩
        · rw [h1, h]
        · cases h
    · have ho : out = (rf most b).1.out := by
        rcases hst with ⟨_, _, h⟩ | ⟨h1, h2, _⟩ | ⟨h1, _, h⟩
        · exact h.symm
        · rcases hel with h | h
          · exact absurd h1 h
          · exact absurd h2 h
        · rcases h with ⟨_, _, h, _⟩ | ⟨h, _⟩
          · exact h.symm
          · cases h
      rw [← ho]
      refine d.ho.kept hU (fun g hg e => ?_)
      have h1 := hog g hg
      have h2 := hNW.size
      have h3 := (Array.getElem?_eq_some_iff.1 hrow3).1
      omega
    · exact Fr.then (Fr.then hNW fr (fun i hi => .inr (by rw [hi]; exact hsbw))) hU (fun i hi => .inr (by omega))
    · intro e0
      rcases hst with ⟨h, _⟩ | ⟨h1, h2, _⟩ | ⟨h1, _, h⟩
      · exact absurd e0 h
      · rcases hel with h | h
        · exact absurd h1 h
        · exact absurd h2 h
      · rcases h with ⟨_, _, _, h⟩ | ⟨h, _⟩
        · rw [h]
          have hpl := d.pl
          omega
        · cases h
  clear H2 hN2 hO2 d0 hN3 hra hNa hrow3 HB hNW HP HM HRB hsbw hrsb
  go_wp2_with fail
  go_loopg [6] (N8 + 1) (fun kx l wr => ∃ last er : Nat, l = .int .i64 (last : Nat) ∧ wr.cell? ⟨sb, 4, none⟩ = some (.int .i64 (er : Nat)) ∧ Hid (RdD sb ga cg b most (rf most b) W3 kx last er wr))
  case atStart => exact ⟨0, 0, rfl, hx0, HI0⟩
  case round =>
    clear HI0 hx0
    obtain ⟨last, er, rfl, x4, HI⟩ := hrel
    by_cases hel : er ≠ 0 ∨ last ≠ 0
    · obtain ⟨vo, pp, c2, c1, ⟨a, n, c, rfl⟩, hrow, HF⟩ := HE.out _ _ _ _ HI.out hel
      obtain ⟨r0, r1, r2⟩ := And.intro (row_cell hrow 0 _ rfl) (And.intro (row_cell hrow 1 _ rfl) (row_cell hrow 2 _ rfl))
      obtain ⟨W9, hW9⟩ : ∃ W9, W9 = ((wr.setCell ⟨rb, 0, none⟩ (.slice a n c)).setCell ⟨rb, 1, none⟩ (.int .i64 (pp : Nat))).setCell ⟨rb, 2, none⟩ (.int .i64 (er : Nat)) := ⟨_, rfl⟩
      have HROW : Hid (W9.drew.heap[rb]? = some (.cells #[.slice a n c, .int .i64 (pp : Nat), .int .i64 (er : Nat)] 64)) := by
        show W9.heap[rb]? = _
        rw [hW9]; exact three_set _ _ _ hrow
      have h9 : Fr (fun k => k = rb) wr W9 := by rw [hW9]; exact three_fr _ _ _ _ _
      have HFIN : Hid (P (.returned (.agg #[.slice a n c, .int .i64 (pp : Nat), .int .i64 (er : Nat)])) W9.drew) := HF.out _ h9.drew
      have HW9 : Hid (((wr.setCell ⟨rb, 0, none⟩ (.slice a n c)).setCell ⟨rb, 1, none⟩ (.int .i64 (pp : Nat))).setCell ⟨rb, 2, none⟩ (.int .i64 (er : Nat)) = W9) := hW9.symm
      clear h9 hW9
      clear HI HE HF hrow
      by_cases he : er = 0
      · subst he
        have hl := ne0' (show last ≠ 0 by rcases hel with h | h; exact absurd rfl h; exact h)
        clear hel
        have HW0 : Hid (((wr.setCell ⟨rb, 0, none⟩ (.slice a n c)).setCell ⟨rb, 1, none⟩ (.int .i64 (pp : Nat))).setCell ⟨rb, 2, none⟩ (.int .i64 0) = W9) := HW9.out
        go_upto_region 15 with fail
        go_region
        all_goals rw [HW0.out]
        all_goals go_wp2_with fail
        all_goals exact rdret rb rfl HROW.out rfl HFIN.out
      · have hz := ne0' he
        have hz2 := ne0 he
        clear hel he
        go_upto_region 15 with fail
        go_region
        all_goals rw [HW9.out]
        all_goals go_wp2_with fail
        all_goals exact rdret rb rfl HROW.out rfl HFIN.out
    · obtain ⟨rfl, rfl⟩ : er = 0 ∧ last = 0 := by omega
      have hgk : gk - 1 < gk := by
        obtain ⟨p, og, vo, out, d, hog, fr, hlo, hst⟩ := HI.out
        rcases hst with ⟨h, _⟩ | ⟨_, _, h, _⟩ | ⟨_, h, _⟩
        · exact absurd rfl h
        · omega
        · exact absurd rfl h
      have HH := toHid (rd_head HI.out)
      clear HI HE hel
      generalize gk - 1 = gk1 at *
      go_upto_region 7 with (first | (go_at_call 36; (with_reducible refine HH.out.mono ?_); rintro e w2 ⟨l, rfl, H2⟩) | (go_at_call 36; (with_reducible refine H2.out.mono ?_); rintro e w3 ⟨k, er3, rfl, x43, y43, J1, J2, J3, J4, J5⟩))
      clear HH H2
      by_cases he3 : er3 = 0
      · subst he3
        by_cases k0 : k = 0
        · have HS := J2 rfl k0
          subst k0
          clear J1 J2 J3 J4 J5
          go_wp2_with (first | (go_at_call 37; (with_reducible refine HS.out.mono ?_); rintro e w4 ⟨⟨r, rfl⟩, H4⟩))
          go_roundg gk1
          case measure => exact hgk
          case rel => obtain ⟨er', j1, j2⟩ := H4.out; exact ⟨l, er', rfl, j1, j2⟩
        · have z0 := ne0' k0
          by_cases k1 : k = 1
          · have HS := J3 rfl k1
            subst k1
            clear J1 J2 J3 J4 J5
            go_wp2_with (first | (go_at_call 39; (with_reducible refine HS.out.mono ?_); rintro e w4 ⟨a1, c1, a2, c2, rfl, H4⟩) | (go_at_call 38; (with_reducible refine H4.out.mono ?_); rintro e w5 ⟨⟨r, rfl⟩, H5⟩))
            go_roundg gk1
            case measure => exact hgk
            case rel => obtain ⟨er', j1, j2⟩ := H5.out; exact ⟨l, er', rfl, j1, j2⟩
          · have z1 : ((k : Int) == 1) = false := by simp only [beq_eq_false_iff_ne, ne_eq]; omega
            by_cases k2 : k = 2
            · have HS := J4 rfl k2
              subst k2
              clear J1 J2 J3 J4 J5
              go_wp2_with (first | (go_at_call 40; (with_reducible refine HS.out.mono ?_); rintro e w4 ⟨a1, n1, c1, a2, n2, c2, rfl, H4⟩) | (go_at_call 38; (with_reducible refine H4.out.mono ?_); rintro e w5 ⟨⟨r, rfl⟩, H5⟩))
              go_roundg gk1
              case measure => exact hgk
              case rel => obtain ⟨er', j1, j2⟩ := H5.out; exact ⟨l, er', rfl, j1, j2⟩
            · have z2 : ((k : Int) == 2) = false := by simp only [beq_eq_false_iff_ne, ne_eq]; omega
              have HS := J5 rfl k0 k1 k2
              clear J1 J2 J3 J4 J5 k0 k1 k2
              go_wp2_with fail
              go_roundg gk1
              case measure => exact hgk
              case rel => obtain ⟨j1, j2⟩ := HS.out; exact ⟨l, 60, rfl, j1, j2⟩
      · have HS := J1 he3
        have hz := ne0' he3
        have hz2 := ne0 he3
        clear J1 J2 J3 J4 J5 he3
        go_wp2_with fail
        go_roundg gk1
        case measure => exact hgk
        case rel => exact ⟨l, er3, rfl, x43, HS⟩
end Go.Proofs.YtincbbnppcpfpaaDoor

namespace Go.Proofs.YtincbbnppcpfpaaDoor
open Go.RowKit
set_option linter.unusedVariables false
/-- What may come out. -/
theorem idec_len (b : List By) (most : Int) : (idec b most).1.length ≤ 4194304 := by
  by_cases hm : most < 0 ∨ 4194304 < most
  · unfold idec; rw [if_pos hm]; simp
  · obtain ⟨m, rfl⟩ : ∃ m : Nat, most = m := ⟨most.toNat, by omega⟩
    by_cases h0 : (idec b m).2.2 = 0
    · have := (idec_bound (b := b) (mo := m) (by omega) h0).1; omega
    · rw [(idec_err (by omega) h0).2]; simp
set_option maxHeartbeats 16000000 in
set_option maxRecDepth 100000 in
theorem gdecode_any (w : World) (vb : Value) (b : List By) (most : Int) (hb : Sl (fun _ => False) vb b w) (hbl : b.length ≤ 1099511627776) : Calls Tryd.prog 11 #[vb, .int .i64 most] w fun e w' => ∃ a c og, e = .returned (.tuple #[.slice a (idec b most).1.length c, .int .i64 (idec b most).2.1, .int .i64 (idec b most).2.2]) ∧ Og og (.slice a (idec b most).1.length c) (idec b most).1 w' ∧ (∀ g, og = some g → w.heap.size ≤ g) ∧ Nw w w' := by
  obtain ⟨P, hP⟩ : ∃ P : Ending → World → Prop, P = fun e w' => ∃ a c og, e = .returned (.tuple #[.slice a (idec b most).1.length c, .int .i64 (idec b most).2.1, .int .i64 (idec b most).2.2]) ∧ Og og (.slice a (idec b most).1.length c) (idec b most).1 w' ∧ (∀ g, og = some g → w.heap.size ≤ g) ∧ Nw w w' := ⟨_, rfl⟩
  rw [← hP]
  obtain ⟨ab, cb, rfl, _⟩ := hb.form
  by_cases hm : most < 0 ∨ 4194304 < most
  · have hf : idec b most = ([], 0, 1) := by unfold idec; rw [if_pos hm]
    have HF : Hid (P (.returned (.tuple #[.slice none 0 0, .int .i64 0, .int .i64 1])) w) := by
      show P _ _
      rw [hP, hf]; exact ⟨none, 0, none, rfl, ⟨rfl, rfl⟩, fun g h => (by cases h), Fr.refl _ _⟩
    clear hP hb
    generalize b.length = L at *
    rcases hm with hm | hm
    · go_enter Tryd.func11, Tryd.ntmps11
      go_wp2_with fail
      exact HF.out
    · have h0 : ¬ most < 0 := by omega
      go_enter Tryd.func11, Tryd.ntmps11
      go_wp2_with fail
      exact HF.out
  · obtain ⟨m, rfl⟩ : ∃ m : Nat, most = m := ⟨most.toNat, by omega⟩
    have hml : m ≤ 4194304 := by omega
    have z0 : ¬ (m : Int) < 0 := by omega
    have z1 : ¬ (4194304 : Int) < (m : Int) := by omega
    have HR : Hid (Calls Tryd.prog 25 #[.slice ab b.length cb, .int .i64 m] w fun e w1 => ∃ a n c p er, e = .returned (.agg #[.slice a n c, .int .i64 (p : Nat), .int .i64 (er : Nat)]) ∧ p ≤ 8796093022208 ∧ (er ≠ 0 → Hid (∀ V, Nw w1 V → P (.returned (.tuple #[.slice none 0 0, .int .i64 0, .int .i64 er])) V)) ∧ (er = 0 → Hid (∀ V z, z = (((p + 7) / 8 : Nat) : Int) → Nw w1 V → P (.returned (.tuple #[.slice a n c, .int .i64 z, .int .i64 0])) V))) := by
      show Calls _ _ _ _ _
      refine (gread_any w _ b m hb hbl hml).mono ?_
      rintro e w1 ⟨vo, og, p, er, rfl, H1⟩
      obtain ⟨h1, h2, h3, h4, h5, h6⟩ := H1.out
      obtain ⟨a, c, rfl, _⟩ := h2.form
      refine ⟨a, _, c, p, er, rfl, by omega, fun he V hV => ?_, fun he V z hz hV => ?_⟩
      · rw [hP, idec_rf hml, if_neg (by rw [← h1]; exact he)]
        exact ⟨none, 0, none, by rw [← h1]; rfl, ⟨rfl, rfl⟩, fun g h => (by cases h), h4.trans hV⟩
      · rw [hP, idec_rf hml, if_pos (by rw [← h1]; exact he), hz, h6 he]
        exact ⟨a, c, og, rfl, h2.nw hV, h3, h4.trans hV⟩
    clear hP hb
    generalize b.length = L at *
    go_enter Tryd.func11, Tryd.ntmps11
    go_upto_region 4 with (first | (go_at_call 25; (with_reducible refine HR.out.mono ?_); rintro e w1 ⟨a, n, c, p, er, rfl, hp, J1, J2⟩))
    have hNV : Nw w1 (w1.alloc (.cells #[.slice a n c, .int .i64 (p : Nat), .int .i64 (er : Nat)] 64)) := (Fr.refl _ _).alloc _
    have hrow : (w1.alloc (.cells #[.slice a n c, .int .i64 (p : Nat), .int .i64 (er : Nat)] 64)).heap[w1.heap.size]? = some (.cells #[.slice a n c, .int .i64 (p : Nat), .int .i64 (er : Nat)] 64) := new_heap _ _
    obtain ⟨r0, r1, r2⟩ := And.intro (row_cell hrow 0 _ rfl).1 (And.intro (row_cell hrow 1 _ rfl).1 (row_cell hrow 2 _ rfl).1)
    by_cases he : er = 0
    · have HF := J2 he
      have HF2 : Hid (∀ V z, z = (((p + 7) / 8 : Nat) : Int) → Nw (w1.alloc (.cells #[.slice a n c, .int .i64 (p : Nat), .int .i64 (er : Nat)] 64)) V → P (.returned (.tuple #[.slice a n c, .int .i64 z, .int .i64 0])) V) := fun V z hz hV => HF.out V z hz (hNV.trans hV)
      subst he
      clear J1 J2 HF hrow hNV HR
      generalize w1.alloc (.cells #[.slice a n c, .int .i64 (p : Nat), .int .i64 ((0 : Nat) : Int)] 64) = W1 at *
      generalize w1.heap.size = tb at *
      obtain ⟨p7, hp7⟩ : ∃ p7, p7 = p + 7 := ⟨_, rfl⟩
      obtain ⟨q, hq⟩ : ∃ q, q = p7 / 8 := ⟨_, rfl⟩
      have hp7i : (p : Int) + 7 = (p7 : Int) := by omega
      have hqi : (p7 : Int).tdiv 8 = (q : Int) := by rw [Int.tdiv_eq_ediv_of_nonneg (by omega)]; omega
      have hqi2 : (p7 : Int) / 8 = (q : Int) := by omega
      have hp7l : p7 ≤ 8796093022215 := by omega
      have HF3 : Hid (∀ V, Nw W1 V → P (.returned (.tuple #[.slice a n c, .int .i64 q, .int .i64 0])) V) := fun V hV => HF2.out V _ (by rw [hq, hp7]) hV
      clear hp7 hq HF2
      go_wp2_with fail
      go_quiet (fail)
      go_wp2_with fail
      exact HF3.out _ ((Fr.refl _ _).drewN _)
    · have HF := J1 he
      have HF2 : Hid (∀ V, Nw (w1.alloc (.cells #[.slice a n c, .int .i64 (p : Nat), .int .i64 (er : Nat)] 64)) V → P (.returned (.tuple #[.slice none 0 0, .int .i64 0, .int .i64 er])) V) := fun V hV => HF.out V (hNV.trans hV)
      have hz := ne0 he
      clear J1 J2 HF hrow hNV HR he
      generalize w1.alloc (.cells #[.slice a n c, .int .i64 (p : Nat), .int .i64 (er : Nat)] 64) = W1 at *
      generalize w1.heap.size = tb at *
      go_wp2_with fail
      go_quiet (fail)
      go_wp2_with fail
      exact HF2.out _ ((Fr.refl _ _).drewN _)
end Go.Proofs.YtincbbnppcpfpaaDoor

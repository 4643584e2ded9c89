import Derived.Test.YtdeefemeiggolaaRi
import Derived.Test.YtdeefemeiggolaaRj
import Derived.Test.YtdeefemeiggolaaRk
import Derived.Test.YtdeefemeiggolaaRe
import Derived.Test.YtdeefemeiggolaaQa
namespace Go.Proofs.Ytdeefemeiggolaa
open Go.RowKit
set_option linter.unusedVariables false
variable {D rb g o c : Nat} {b : List By} {most p : Nat} {out : List By} {K : Nat → Prop} {w : World}
/-- block. -/
theorem eblock_any (h : RfI D rb g o c b most p out K w) (fb : Nat) (f : Fm) (hf : FB fb f w) (hfr : fb ≠ rb) (hKf : K fb) (hDf : D ≤ fb) (s : Shp) (hs1 : 4 ≤ s.block) (hs2 : s.block ≤ 7) (began : Nat) (hbg : began ≤ out.length) (hb1 : f.blocks < 4611686018427387904) (hb2 : f.plain < 4611686018427387904) :
    Calls Try.prog 49 #[.pointer (some ⟨rb, 0, none⟩), .agg #[.int .i64 s.block, .bool s.alone, .bool s.bsum, .bool s.csum, .bool s.csize], .pointer (some ⟨fb, 0, none⟩), .int .i64 began] w (EBk D rb g o c b most p out K w fb f (blockF b most s began p out)) := by
  obtain ⟨_, _, _, _, _, ao, ko, hao, _, _, _⟩ := h.cells
  have B : BS D rb g o c b most p out K w fb f s ao ko (w.alloc (.cells #[.int .i64 s.block, .bool s.alone, .bool s.bsum, .bool s.csum, .bool s.csize] 24)) := ⟨h, hf, hfr, hKf, hDf, hs1, hs2, hb1, hb2, hao, (Fr.refl _ _).alloc _, by
    show (w.heap.push _)[w.heap.size]? = _
    rw [Array.getElem?_push_size]⟩
  have hcb := h.hc
  by_cases q1 : b.length < p + 4
  · exact eblock_L1 B rfl began q1
  by_cases q2 : le (tk b p 4) = 0
  · exact eblock_L2 B rfl began q1 q2
  by_cases q3 : siz s < le (tk b p 4) % 2147483648
  · exact eblock_L3 B rfl began q1 q2 q3
  cases hzb : s.bsum with
  | true =>
    by_cases q4 : b.length < p + 4 + le (tk b p 4) % 2147483648 + bs s
    · rw [← hzb]; exact eblock_L4t B rfl began q1 q2 q3 q4 hzb
    · by_cases q5 : le (tk b (p + 4 + le (tk b p 4) % 2147483648) 4) = sm (tk b (p + 4) (le (tk b p 4) % 2147483648))
      · by_cases q7 : 2147483648 ≤ le (tk b p 4)
        · by_cases q8 : most - out.length < le (tk b p 4) % 2147483648
          · rw [← hzb]; exact eblock_L6t B rfl began q1 q2 q3 q4 hzb q5 q7 q8
          · rw [← hzb]; exact eblock_L7t B rfl began q1 q2 q3 q4 hzb q5 q7 q8 (by have : bs s = 4 := by unfold bs; rw [hzb]; rfl
                                                                                  omega)
        · rw [← hzb]; exact eblock_L8t B rfl began q1 q2 q3 q4 hzb q5 q7 hbg
      · rw [← hzb]; exact eblock_L5 B rfl began q1 q2 q3 q4 hzb q5
  | false =>
    by_cases q4 : b.length < p + 4 + le (tk b p 4) % 2147483648 + bs s
    · rw [← hzb]; exact eblock_L4f B rfl began q1 q2 q3 q4 hzb
    · by_cases q7 : 2147483648 ≤ le (tk b p 4)
      · by_cases q8 : most - out.length < le (tk b p 4) % 2147483648
        · rw [← hzb]; exact eblock_L6f B rfl began q1 q2 q3 q4 hzb q7 q8
        · by_cases q9 : c = p + 4
          · rw [← hzb]; exact eblock_L7c B rfl began q1 q2 q3 q4 hzb q7 q8 q9
          · rw [← hzb]; exact eblock_L7f B rfl began q1 q2 q3 q4 hzb q7 q8 q9
      · rw [← hzb]; exact eblock_L8f B rfl began q1 q2 q3 q4 hzb q7 hbg
theorem RfI.less {K' : Nat → Prop} (h : RfI D rb g o c b most p out K' w) (hK : ∀ k, K k → K' k) (hr : K rb) (hl : ∀ k, k < D → K k) : RfI D rb g o c b most p out K w := by
  obtain ⟨vo, h1, h2⟩ := h.row
  exact ⟨⟨vo, h1, h2.more (fun k hk => .inl (hK k hk))⟩, hr, h.dr, hl, h.gd, h.rd, fun k hk => h.lt k (hK k hk), h.hc, h.hc2, h.pl, h.ol, h.ml, h.bl⟩
/-- What framed answers. -/
def EFm (D rb g o c : Nat) (b : List By) (most : Nat) (K : Nat → Prop) (w : World) (fb : Nat) (r : Rz (Fm × List By)) (e : Ending) (w' : World) : Prop :=
  Fr (fun k => k = rb ∨ k = fb ∨ ¬ K k) w w' ∧ match r with
    | .bad a y => e = .returned (.tuple #[.int .i64 a, .int .i64 y])
    | .ok (f, out') => e = .returned (.tuple #[.int .i64 0, .int .i64 0]) ∧ RfI D rb g o c b most f.till out' K w' ∧ FB fb f w'
def emid (p : Nat) (s : Shp) (k q n t : Nat) : Fm := ⟨p, t, false, 0, s, k, q, n⟩
/-- How the blocks stand. -/
def BIe (D rb g o c : Nat) (b : List By) (most : Nat) (K : Nat → Prop) (w : World) (fb p : Nat) (s : Shp) (began p0 : Nat) (out0 : List By) (p1 : Nat) (out1 : List By) (k q : Nat) (V : World) : Prop :=
  RfI D rb g o c b most p1 out1 K V ∧ FB fb (emid p s k q 0 0) V ∧ Fr (fun k => k = rb ∨ k = fb ∨ ¬ K k) w V ∧ blocksF b most s began p1 out1 k q = blocksF b most s began p0 out0 0 0 ∧ k ≤ p1 ∧ q ≤ k ∧ began ≤ out1.length
theorem BIe.round {fb p : Nat} {s : Shp} {began p0 : Nat} {out0 : List By} {p1 : Nat} {out1 : List By} {k q : Nat} {V : World} (h : BIe D rb g o c b most K w fb p s began p0 out0 p1 out1 k q V) (hfr : fb ≠ rb) (hKf : K fb) (hDf : D ≤ fb) (hs1 : 4 ≤ s.block) (hs2 : s.block ≤ 7) :
    Calls Try.prog 49 #[.pointer (some ⟨rb, 0, none⟩), .agg #[.int .i64 s.block, .bool s.alone, .bool s.bsum, .bool s.csum, .bool s.csize], .pointer (some ⟨fb, 0, none⟩), .int .i64 began] V fun e w' =>
      (∃ a y, blocksF b most s began p0 out0 0 0 = .bad a y ∧ ¬ y = 0 ∧ e = .returned (.tuple #[.bool false, .int .i64 a, .int .i64 y]) ∧ Fr (fun k => k = rb ∨ k = fb ∨ ¬ K k) w w') ∨
      (e = .returned (.tuple #[.bool true, .int .i64 0, .int .i64 0]) ∧ blocksF b most s began p0 out0 0 0 = .ok (p1, out1, k, q) ∧ p1 + 4 ≤ b.length ∧ RfI D rb g o c b most p1 out1 K w' ∧ FB fb (emid p s k q 0 0) w' ∧ Fr (fun k => k = rb ∨ k = fb ∨ ¬ K k) w w' ∧ began ≤ out1.length) ∨
      (e = .returned (.tuple #[.bool false, .int .i64 0, .int .i64 0]) ∧ ∃ p2 out2 k2 q2, p1 < p2 ∧ p2 ≤ b.length ∧ BIe D rb g o c b most K w fb p s began p0 out0 p2 out2 k2 q2 w') := by
  obtain ⟨h1, h2, h3, h4, h5, h6, h7⟩ := h
  have hbl := h1.bl
  have hpl := h1.pl
  refine (eblock_any h1 fb (emid p s k q 0 0) h2 hfr hKf hDf s hs1 hs2 began h7 (by show k < _; omega) (by show q < _; omega)).mono ?_
  rintro e w' ⟨hF, hr⟩
  have hF' := h3.trans hF
  show _ ∨ _ ∨ _
  rw [blocksF_eq] at h4
  cases hb : blockF b most s began p1 out1 with
  | bad a y =>
    rw [hb] at hr h4
    exact .inl ⟨a, y, h4.symm, blockF_bad hb, hr, hF'⟩
  | fin =>
    rw [hb] at hr h4
    exact .inr (.inl ⟨hr.1, h4.symm, (blockF_fin hb).1, hr.2.1, hr.2.2, hF', h7⟩)
  | ok p2 out2 pl =>
    rw [hb] at hr h4
    obtain ⟨k1, k2, k3, x, k4⟩ := blockF_ok hb
    refine .inr (.inr ⟨hr.1, p2, out2, k + 1, if pl = true then q + 1 else q, by omega, k2, hr.2.1, ?_, hF', h4, by omega, by split <;> omega, by rw [k4, List.length_append]; omega⟩)
    have := hr.2.2
    exact this
end Go.Proofs.Ytdeefemeiggolaa

namespace Go.Proofs.Ytdeefemeiggolaa
open Go.RowKit
set_option linter.unusedVariables false
variable {D rb g o c : Nat} {b : List By} {most p : Nat} {out : List By} {K : Nat → Prop} {w : World}
/-! ### framed -/
theorem FB.setShape {fb : Nat} {P0 : Nat} {V : World} (h : RfI D rb g o c b most p out K V) (hf : FB fb (Fm.start P0) V) (hfr : fb ≠ rb) (hKf : K fb) (hDf : D ≤ fb) (s : Shp) :
    (∃ x, V.cell? ⟨fb, 4, none⟩ = some x) ∧ (∃ x, V.cell? ⟨fb, 5, none⟩ = some x) ∧ (∃ x, V.cell? ⟨fb, 6, none⟩ = some x) ∧ (∃ x, V.cell? ⟨fb, 7, none⟩ = some x) ∧ (∃ x, V.cell? ⟨fb, 8, none⟩ = some x) ∧ V.frozen? ⟨fb, 4, none⟩ = false ∧ V.frozen? ⟨fb, 5, none⟩ = false ∧ V.frozen? ⟨fb, 6, none⟩ = false ∧ V.frozen? ⟨fb, 7, none⟩ = false ∧ V.frozen? ⟨fb, 8, none⟩ = false ∧
    Hid (RfI D rb g o c b most p out K (((((V.setCell ⟨fb, 4, none⟩ (.int .i64 s.block)).setCell ⟨fb, 5, none⟩ (.bool s.alone)).setCell ⟨fb, 6, none⟩ (.bool s.bsum)).setCell ⟨fb, 7, none⟩ (.bool s.csum)).setCell ⟨fb, 8, none⟩ (.bool s.csize)) ∧ FB fb (emid P0 s 0 0 0 0) (((((V.setCell ⟨fb, 4, none⟩ (.int .i64 s.block)).setCell ⟨fb, 5, none⟩ (.bool s.alone)).setCell ⟨fb, 6, none⟩ (.bool s.bsum)).setCell ⟨fb, 7, none⟩ (.bool s.csum)).setCell ⟨fb, 8, none⟩ (.bool s.csize)) ∧ Fr (fun k => k = rb ∨ k = fb) V (((((V.setCell ⟨fb, 4, none⟩ (.int .i64 s.block)).setCell ⟨fb, 5, none⟩ (.bool s.alone)).setCell ⟨fb, 6, none⟩ (.bool s.bsum)).setCell ⟨fb, 7, none⟩ (.bool s.csum)).setCell ⟨fb, 8, none⟩ (.bool s.csize))) := by
  obtain ⟨a1, a2, a3, a4, a5⟩ := FB.keepRf (Fm.start P0) h hf hfr hKf hDf 4 _ (.int .i64 s.block) (emid P0 ⟨s.block, false, false, false, false⟩ 0 0 0 0) rfl rfl
  obtain ⟨b1, b2, b3, b4, b5⟩ := FB.keepRf _ a3 a4 hfr hKf hDf 5 _ (.bool s.alone) (emid P0 ⟨s.block, s.alone, false, false, false⟩ 0 0 0 0) rfl rfl
  obtain ⟨c1, c2, c3, c4, c5⟩ := FB.keepRf _ b3 b4 hfr hKf hDf 6 _ (.bool s.bsum) (emid P0 ⟨s.block, s.alone, s.bsum, false, false⟩ 0 0 0 0) rfl rfl
  obtain ⟨d1, d2, d3, d4, d5⟩ := FB.keepRf _ c3 c4 hfr hKf hDf 7 _ (.bool s.csum) (emid P0 ⟨s.block, s.alone, s.bsum, s.csum, false⟩ 0 0 0 0) rfl rfl
  obtain ⟨e1, e2, e3, e4, e5⟩ := FB.keepRf _ d3 d4 hfr hKf hDf 8 _ (.bool s.csize) (emid P0 ⟨s.block, s.alone, s.bsum, s.csum, s.csize⟩ 0 0 0 0) rfl rfl
  exact ⟨⟨_, (row_cell hf 4 _ rfl).1⟩, ⟨_, (row_cell hf 5 _ rfl).1⟩, ⟨_, (row_cell hf 6 _ rfl).1⟩, ⟨_, (row_cell hf 7 _ rfl).1⟩, ⟨_, (row_cell hf 8 _ rfl).1⟩, (row_cell hf 4 _ rfl).2, (row_cell hf 5 _ rfl).2, (row_cell hf 6 _ rfl).2, (row_cell hf 7 _ rfl).2, (row_cell hf 8 _ rfl).2, e3, e4, (((a5.trans b5).trans c5).trans d5).trans e5⟩
/-- The plain bytes of a frame, as a slice. -/
theorem RfI.from2 {K : Nat → Prop} {V : World} (h : RfI D rb g o c b most p out K V) (began : Nat) (hbg : began ≤ out.length) : ∃ ao ko, V.cell? ⟨rb, 3, none⟩ = some (.slice ao out.length ko) ∧ ((ao = none ∧ began = 0 ∧ ko = 0 ∧ out.length = 0 ∧ ∀ V', Nw V V' → Old V' (.slice none 0 0) (out.drop began)) ∨ ∃ g2, ao = some ⟨g2, 0, none⟩ ∧ began ≤ ko ∧ out.length ≤ ko ∧ ko < 9223372036854775808 ∧ ((ko = began ∧ out.length = began ∧ ∀ a V', Nw V V' → Old V' (.slice a 0 0) (out.drop began)) ∨ (¬ ko = began ∧ ∀ V', Nw V V' → Old V' (.slice (some ⟨g2, began, none⟩) (out.length - began) (ko - began)) (out.drop began)))) := by
  obtain ⟨_, _, _, _, _, ao, ko, hcc, hle, hlt', hMo⟩ := h.cells
  refine ⟨ao, ko, hcc, ?_⟩
  rcases hMo with ⟨e1, e2⟩ | ⟨g2, _, hO⟩
  · injection e1 with e1 e3 e4
    refine .inl ⟨e1, by rw [e2] at hbg; simp at hbg; omega, e4, e3, fun V' _ => .inl ⟨none, rfl, by rw [e2]; simp⟩⟩
  · have hO' := hO
    obtain ⟨xs, e1, _⟩ := hO'
    injection e1 with e1
    refine .inr ⟨g2, e1, by omega, hle, hlt', ?_⟩
    by_cases hk : ko = began
    · exact .inl ⟨hk, by omega, fun a V' _ => .inl ⟨a, rfl, List.eq_nil_of_length_eq_zero (by rw [List.length_drop]; omega)⟩⟩
    · refine .inr ⟨hk, fun V' hV' => ?_⟩
      obtain ⟨o2, k2, e5, e6, e7, e8⟩ := hO.slb
      rw [e1] at e5
      injection e5 with e5 _ e9
      injection e5 with e5
      injection e5 with _ e5
      subst e5
      refine .inr ⟨g2, by have := hO.lt; have := hV'.size; show ¬ V'.heap.size ≤ g2; omega, 0 + began, ko - began, by rw [List.length_drop, Nat.zero_add], by rw [List.length_drop]; omega, by omega, (e8.drop began).nw hV'⟩
set_option maxHeartbeats 40000000 in
set_option maxRecDepth 100000 in
theorem eframed_bad (P0 : Nat) (h : RfI D rb g o c b most (P0 + 4) out K w) (fb : Nat) (hf : FB fb (Fm.start P0) w) (hfr : fb ≠ rb) (hKf : K fb) (hDf : D ≤ fb) (a y : Nat) (hh : headF b (P0 + 4) = .bad a y) : Calls Try.prog 36 #[.pointer (some ⟨rb, 0, none⟩), .pointer (some ⟨fb, 0, none⟩)] w (EFm D rb g o c b most K w fb (frameF b most P0 out)) := by
  obtain ⟨P, hP⟩ : ∃ P : Ending → World → Prop, P = EFm D rb g o c b most K w fb (frameF b most P0 out) := ⟨_, rfl⟩
  rw [← hP]
  have HP : Hid (P = EFm D rb g o c b most K w fb (frameF b most P0 out)) := hP
  clear hP
  have hfb : frameF b most P0 out = .bad a y := by unfold frameF; rw [hh]
  have hy := headF_bad hh
  have HC : Hid (Calls Try.prog 48 #[.pointer (some ⟨rb, 0, none⟩)] w fun e w1 => ∃ (k : Int) (b1 b2 b3 b4 : Bool) (z : Nat), e = .returned (.tuple #[.agg #[.int .i64 k, .bool b1, .bool b2, .bool b3, .bool b4], .int .u64 z, .int .i64 a, .int .i64 y]) ∧ Hid (Fr (fun k => k = rb) w w1)) := by
    show Calls _ _ _ _ _
    refine (eheaded_any h).mono ?_
    rintro e w1 ⟨h1, h2⟩
    rw [hh] at h2
    obtain ⟨k, b1, b2, b3, b4, z, rfl⟩ := h2
    exact ⟨k, b1, b2, b3, b4, z, rfl, h1⟩
  have HF : Hid (∀ V, Fr (fun k => k = rb) w V → P (.returned (.tuple #[.int .i64 a, .int .i64 y])) V) := fun V hV => by
    rw [HP.out, hfb]; exact ⟨hV.mono (fun i hi => .inl (.inl hi)), rfl⟩
  have HAL : Hid (∀ V (k : Int) (b1 b2 b3 b4 : Bool), Fr (fun k => k = rb) w V → Fr (fun k => k = rb) w (V.alloc (.cells #[.int .i64 k, .bool b1, .bool b2, .bool b3, .bool b4] 24))) := fun V k b1 b2 b3 b4 hV => hV.alloc _
  have hy' : ¬ (y : Int) = 0 := by omega
  have HRW : Hid (∀ V : World, (V.alloc (.cells #[.int .i64 0, .bool false, .bool false, .bool false, .bool false] 24)).heap[V.heap.size]? = some (.cells #[.int .i64 0, .bool false, .bool false, .bool false, .bool false] 24)) := fun V => by
    show (V.heap.push _)[V.heap.size]? = _
    rw [Array.getElem?_push_size]
  clear h hf hh hfb HP
  go_enter Try.func36, Try.ntmps36
  go_wp2_with (first | (go_at_call 48; (with_reducible refine HC.out.mono ?_); rintro e w1 ⟨k, b1, b2, b3, b4, z, rfl, H1⟩; have hrw := HRW.out w1; have s0 := (row_cell hrw 0 _ rfl).2; have s1 := (row_cell hrw 1 _ rfl).2; have s2 := (row_cell hrw 2 _ rfl).2; have s3 := (row_cell hrw 3 _ rfl).2; have s4 := (row_cell hrw 4 _ rfl).2; have u0 := (row_cell hrw 0 _ rfl).1; have u1 := (row_cell hrw 1 _ rfl).1; have u2 := (row_cell hrw 2 _ rfl).1; have u3 := (row_cell hrw 3 _ rfl).1; have u4 := (row_cell hrw 4 _ rfl).1; clear hrw))
  exact HF.out _ (HAL.out w1 k b1 b2 b3 b4 H1.out)
set_option maxHeartbeats 40000000 in
set_option maxRecDepth 100000 in
theorem eframed_good (P0 : Nat) (h : RfI D rb g o c b most (P0 + 4) out K w) (fb : Nat) (hf : FB fb (Fm.start P0) w) (hfr : fb ≠ rb) (hKf : K fb) (hDf : D ≤ fb) (s : Shp) (nsz p1 : Nat) (hh : headF b (P0 + 4) = .ok (s, nsz, p1)) : Calls Try.prog 36 #[.pointer (some ⟨rb, 0, none⟩), .pointer (some ⟨fb, 0, none⟩)] w (EFm D rb g o c b most K w fb (frameF b most P0 out)) := by
  obtain ⟨P, hP⟩ : ∃ P : Ending → World → Prop, P = EFm D rb g o c b most K w fb (frameF b most P0 out) := ⟨_, rfl⟩
  rw [← hP]
  have HP : Hid (P = EFm D rb g o c b most K w fb (frameF b most P0 out)) := hP
  clear hP
  obtain ⟨hp1e, hp1, hs1, hs2⟩ := headF_ok hh
  have hbl := h.bl
  have hcb := h.hc
  have hc2 := h.hc2
  have hml := h.ml
  have hnsz : nsz < 18446744073709551616 := headF_size hh
  have HC : Hid (Calls Try.prog 48 #[.pointer (some ⟨rb, 0, none⟩)] w fun e w1 => e = .returned (.tuple #[.agg #[.int .i64 s.block, .bool s.alone, .bool s.bsum, .bool s.csum, .bool s.csize], .int .u64 nsz, .int .i64 0, .int .i64 0]) ∧ Hid (RfI D rb g o c b most p1 out K w1 ∧ Fr (fun k => k = rb) w w1 ∧ FB fb (Fm.start P0) w1)) := by
    show Calls _ _ _ _ _
    refine (eheaded_any h).mono ?_
    rintro e w1 ⟨h1, h2⟩
    rw [hh] at h2
    exact ⟨h2.1, h2.2, h1, hf.kept h1 hfr⟩
  have HRW : Hid (∀ V : World, (V.alloc (.cells #[.int .i64 0, .bool false, .bool false, .bool false, .bool false] 24)).heap[V.heap.size]? = some (.cells #[.int .i64 0, .bool false, .bool false, .bool false, .bool false] 24)) := fun V => by
    show (V.heap.push _)[V.heap.size]? = _
    rw [Array.getElem?_push_size]
  -- behind the shape's own block
  have HS3 : Hid (∀ V, RfI D rb g o c b most p1 out K V → Fr (fun k => k = rb) w V → FB fb (Fm.start P0) V → (V.alloc (.cells #[.int .i64 s.block, .bool s.alone, .bool s.bsum, .bool s.csum, .bool s.csize] 24)).heap[V.heap.size]? = some (.cells #[.int .i64 s.block, .bool s.alone, .bool s.bsum, .bool s.csum, .bool s.csize] 24) ∧ RfI D rb g o c b most p1 out (fun k => K k ∨ k = V.heap.size) (V.alloc (.cells #[.int .i64 s.block, .bool s.alone, .bool s.bsum, .bool s.csum, .bool s.csize] 24)) ∧ FB fb (Fm.start P0) (V.alloc (.cells #[.int .i64 s.block, .bool s.alone, .bool s.bsum, .bool s.csum, .bool s.csize] 24)) ∧ Fr (fun k => k = rb) w (V.alloc (.cells #[.int .i64 s.block, .bool s.alone, .bool s.bsum, .bool s.csum, .bool s.csize] 24))) := by
    intro V hV hFV hB
    have hN : Nw V (V.alloc (.cells #[.int .i64 s.block, .bool s.alone, .bool s.bsum, .bool s.csum, .bool s.csize] 24)) := (Fr.refl _ V).alloc _
    have h3 : (V.alloc (.cells #[.int .i64 s.block, .bool s.alone, .bool s.bsum, .bool s.csum, .bool s.csize] 24)).heap.size = V.heap.size + 1 := by simp
    refine ⟨by
      show (V.heap.push _)[V.heap.size]? = _
      rw [Array.getElem?_push_size], hV.keep hN (fun k hk => hk.elim) (fun k hk => .inl hk) (fun k hk => ?_), hB.nw hN, hFV.trans hN.any⟩
    rcases hk with hk | hk
    · exact .inl hk
    · exact .inr ⟨by omega, by omega⟩
  have HBAD : Hid (∀ (a y : Nat) V, frameF b most P0 out = .bad a y → Fr (fun k => k = rb ∨ k = fb ∨ ¬ K k) w V → P (.returned (.tuple #[.int .i64 a, .int .i64 y])) V) := fun a y V h1 h2 => by
    rw [HP.out, h1]; exact ⟨h2, rfl⟩
  have HOK : Hid (∀ (f' : Fm) (out' : List By) K' V, frameF b most P0 out = .ok (f', out') → (∀ k, K k → K' k) → RfI D rb g o c b most f'.till out' K' V → FB fb f' V → Fr (fun k => k = rb ∨ k = fb ∨ ¬ K k) w V → P (.returned (.tuple #[.int .i64 0, .int .i64 0])) V) := fun f' out' K' V h1 hK h2 h3 h4 => by
    rw [HP.out, h1]; exact ⟨h4, rfl, h2.less hK h.kr h.low, h3⟩
  have HFF : Hid (∀ p2 out1 k q, blocksF b most s out.length p1 out 0 0 = .ok (p2, out1, k, q) → frameF b most P0 out = if s.csize = true ∧ nsz ≠ out1.length - out.length then .bad p2 45 else if s.csum = true then (if b.length < p2 + 8 then .bad b.length 4 else if le (tk b (p2 + 4) 4) ≠ sm (out1.drop out.length) then .bad (p2 + 4) 46 else .ok (emid P0 s k q (out1.length - out.length) (p2 + 8), out1)) else .ok (emid P0 s k q (out1.length - out.length) (p2 + 4), out1)) := fun p2 out1 k q h1 => by
    unfold frameF; rw [hh]; simp only [h1]; rfl
  have HFB : Hid (∀ a y, blocksF b most s out.length p1 out 0 0 = .bad a y → frameF b most P0 out = .bad a y) := fun a y h1 => by
    unfold frameF; rw [hh]; simp only [h1]
  have hol0 := h.ol
  clear h hf hh HP
  go_enter Try.func36, Try.ntmps36
  go_upto_region 2 with (first | (go_at_call 48; (with_reducible refine HC.out.mono ?_); rintro e w1 ⟨rfl, H1⟩; have hrw := HRW.out w1; have s0 := (row_cell hrw 0 _ rfl).2; have s1 := (row_cell hrw 1 _ rfl).2; have s2 := (row_cell hrw 2 _ rfl).2; have s3 := (row_cell hrw 3 _ rfl).2; have s4 := (row_cell hrw 4 _ rfl).2; have u0 := (row_cell hrw 0 _ rfl).1; have u1 := (row_cell hrw 1 _ rfl).1; have u2 := (row_cell hrw 2 _ rfl).1; have u3 := (row_cell hrw 3 _ rfl).1; have u4 := (row_cell hrw 4 _ rfl).1; clear hrw))
  obtain ⟨hw3, hR3, hB3, hF3⟩ := HS3.out w1 H1.out.1 H1.out.2.1 H1.out.2.2
  have hsbl : ¬ K w1.heap.size := fun hx => by have := H1.out.1.lt _ hx; omega
  have hsbr : rb ≠ w1.heap.size := by have := H1.out.1.lt rb H1.out.1.kr; omega
  have hsbf : fb ≠ w1.heap.size := by have := H1.out.2.2.lt; omega
  clear s0 s1 s2 s3 s4 u0 u1 u2 u3 u4 HS3 HRW HC H1
  generalize w1.alloc (.cells #[.int .i64 s.block, .bool s.alone, .bool s.bsum, .bool s.csum, .bool s.csize] 24) = W3 at *
  generalize w1.heap.size = sb at *
  obtain ⟨K', hK'⟩ : ∃ K' : Nat → Prop, K' = fun k => K k ∨ k = sb := ⟨_, rfl⟩
  rw [← hK'] at hR3
  have hKK : ∀ k, K k → K' k := fun k hk => by rw [hK']; exact .inl hk
  have hKs : K' sb := by rw [hK']; exact .inr rfl
  obtain ⟨⟨x4, y4⟩, ⟨x5, y5⟩, ⟨x6, y6⟩, ⟨x7, y7⟩, ⟨x8, y8⟩, z4, z5, z6, z7, z8, HSS⟩ := FB.setShape hR3 hB3 hfr (hKK _ hKf) hDf s
  obtain ⟨ss0, ss1, ss2, ss3, ss4⟩ := (HK.of hR3 hw3).2
  have HW3 : Hid (W3.heap[sb]? = some (.cells #[.int .i64 s.block, .bool s.alone, .bool s.bsum, .bool s.csum, .bool s.csize] 24)) := hw3
  have HF3 : Hid (Fr (fun k => k = rb) w W3) := hF3
  have HKK : Hid ((∀ k, K k → K' k) ∧ K' sb) := ⟨hKK, hKs⟩
  clear hw3 hR3 hB3 hF3 hKK hKs hK'
  go_upto_region 5 with fail
  obtain ⟨hR4, hB4, hF4⟩ := HSS.out
  have hF4' : Fr (fun k => k = rb ∨ k = fb ∨ ¬ K k) w (((((W3.setCell ⟨fb, 4, none⟩ (.int .i64 s.block)).setCell ⟨fb, 5, none⟩ (.bool s.alone)).setCell ⟨fb, 6, none⟩ (.bool s.bsum)).setCell ⟨fb, 7, none⟩ (.bool s.csum)).setCell ⟨fb, 8, none⟩ (.bool s.csize)) := (HF3.out.mono (fun i hi => .inl (.inl hi))).trans (hF4.mono (fun i hi => .inl (by rcases hi with hi | hi; exact .inl hi; exact .inr (.inl hi))))
  have hrow4 := row_kept HW3.out hF4 (fun hx => by rcases hx with hx | hx; exact hsbr hx.symm; exact hsbf hx.symm)
  clear HSS y4 y5 y6 y7 y8 z4 z5 z6 z7 z8 ss0 ss1 ss2 ss3 ss4 HW3 HF3 hF4
  generalize ((((W3.setCell ⟨fb, 4, none⟩ (.int .i64 s.block)).setCell ⟨fb, 5, none⟩ (.bool s.alone)).setCell ⟨fb, 6, none⟩ (.bool s.bsum)).setCell ⟨fb, 7, none⟩ (.bool s.csum)).setCell ⟨fb, 8, none⟩ (.bool s.csize) = W4 at *
  obtain ⟨_, _, _, _, _, a3, k3, c3, _, _, _⟩ := hR4.cells
  have HI0 : Hid (BIe D rb g o c b most K' W4 fb P0 s out.length p1 out p1 out 0 0 W4) := ⟨hR4, hB4, Fr.refl _ _, rfl, by omega, by omega, Nat.le_refl _⟩
  have HR4 : Hid (W4.heap[sb]? = some (.cells #[.int .i64 s.block, .bool s.alone, .bool s.bsum, .bool s.csum, .bool s.csize] 24) ∧ Fr (fun k => k = rb ∨ k = fb ∨ ¬ K k) w W4) := ⟨hrow4, hF4'⟩
  have HKEY : Hid (∀ V, Fr (fun k => k = rb ∨ k = fb ∨ ¬ K' k) W4 V → V.heap[sb]? = some (.cells #[.int .i64 s.block, .bool s.alone, .bool s.bsum, .bool s.csum, .bool s.csize] 24) ∧ Fr (fun k => k = rb ∨ k = fb ∨ ¬ K k) w V) := fun V hV => by
    refine ⟨row_kept HR4.out.1 hV (fun hx => ?_), HR4.out.2.trans (hV.mono (fun i hi => .inl ?_))⟩
    · rcases hx with hx | hx | hx
      · exact hsbr hx.symm
      · exact hsbf hx.symm
      · exact hx HKK.out.2
    · rcases hi with hi | hi | hi
      · exact .inl hi
      · exact .inr (.inl hi)
      · exact .inr (.inr (fun hx => hi (HKK.out.1 _ hx)))
  have BLK : Hid (∀ p2 out1 k q V, BIe D rb g o c b most K' W4 fb P0 s out.length p1 out p2 out1 k q V → (V.cell? ⟨sb, 0, none⟩ = some (.int .i64 s.block) ∧ V.cell? ⟨sb, 1, none⟩ = some (.bool s.alone) ∧ V.cell? ⟨sb, 2, none⟩ = some (.bool s.bsum) ∧ V.cell? ⟨sb, 3, none⟩ = some (.bool s.csum) ∧ V.cell? ⟨sb, 4, none⟩ = some (.bool s.csize)) ∧ Hid (Calls Try.prog 49 #[.pointer (some ⟨rb, 0, none⟩), .agg #[.int .i64 s.block, .bool s.alone, .bool s.bsum, .bool s.csum, .bool s.csize], .pointer (some ⟨fb, 0, none⟩), .int .i64 out.length] V fun e w' => (∃ a y : Nat, ¬ (y : Int) = 0 ∧ e = .returned (.tuple #[.bool false, .int .i64 a, .int .i64 y]) ∧ Hid (P (.returned (.tuple #[.int .i64 a, .int .i64 y])) w')) ∨ (e = .returned (.tuple #[.bool true, .int .i64 0, .int .i64 0]) ∧ Hid (blocksF b most s out.length p1 out 0 0 = .ok (p2, out1, k, q) ∧ p2 + 4 ≤ b.length ∧ RfI D rb g o c b most p2 out1 K' w' ∧ FB fb (emid P0 s k q 0 0) w' ∧ Fr (fun k => k = rb ∨ k = fb ∨ ¬ K' k) W4 w' ∧ out.length ≤ out1.length)) ∨ (e = .returned (.tuple #[.bool false, .int .i64 0, .int .i64 0]) ∧ ∃ p3 out2 k2 q2, p2 < p3 ∧ p3 ≤ b.length ∧ Hid (BIe D rb g o c b most K' W4 fb P0 s out.length p1 out p3 out2 k2 q2 w')))) := by
    intro p2 out1 k q V hV
    refine ⟨(HK.of hV.1 (HKEY.out V hV.2.2.1).1).2, ?_⟩
    show Calls _ _ _ _ _
    refine (hV.round hfr (HKK.out.1 _ hKf) hDf hs1 hs2).mono ?_
    rintro e w' (⟨a, y, h1, h2, h3, h4⟩ | ⟨h1, h2⟩ | ⟨h1, p3, out2, k2, q2, h2, h3, h4⟩)
    · exact .inl ⟨a, y, by omega, h3, HBAD.out _ _ _ (HFB.out _ _ h1) (HKEY.out _ h4).2⟩
    · exact .inr (.inl ⟨h1, h2⟩)
    · exact .inr (.inr ⟨h1, p3, out2, k2, q2, h2, h3, h4⟩)
  clear hR4 hB4 hF4' hrow4 HFB
  go_wp2_with fail
  go_loopg [11] (b.length - p1) (fun kx i wr => ∃ (p2 k q : Nat) (out1 : List By), p2 ≤ b.length ∧ b.length - p2 ≤ kx ∧ Hid (BIe D rb g o c b most K' W4 fb P0 s out.length p1 out p2 out1 k q wr))
  case atStart => exact ⟨p1, 0, 0, out, hp1, Nat.le_refl _, HI0.out⟩
  case round =>
    obtain ⟨p2, k, q, out1, hp2, hkx, HB⟩ := hrel
    obtain ⟨⟨v0, v1, v2, v3, v4⟩, BL⟩ := BLK.out _ _ _ _ _ HB.out
    clear BLK HI0 HB c3
    go_wp2_with fail
    go_at_call 49
    with_reducible refine BL.out.mono ?_
    rintro e w2 (⟨a, y, hy, rfl, HF⟩ | ⟨rfl, HE⟩ | ⟨rfl, p3, out2, k2, q2, g1, g2, HB2⟩)
    · clear v0 v1 v2 v3 v4 BL
      go_wp2_with fail
      exact HF.out
    · clear v0 v1 v2 v3 v4 BL
      obtain ⟨hB, hp4l, hRI, hFB, hFr, hge⟩ := HE.out
      have hff := HFF.out _ _ _ _ hB
      obtain ⟨n, hn⟩ : ∃ n, out1.length - out.length = n := ⟨_, rfl⟩
      rw [hn] at hff
      have hol1 := hRI.ol
      have hzn : (out1.length : Int) - (out.length : Int) = (n : Int) := by omega
      have hznw : IntKind.i64.wrap (n : Int) = (n : Int) := by rw [IntKind.wrap_i64]; omega
      have hznu : IntKind.u64.wrap (n : Int) = (n : Int) := by rw [IntKind.wrap_u64]; omega
      obtain ⟨m1, m2, m3, m4, m5⟩ := FB.keepRf _ hRI hFB hfr (HKK.out.1 _ hKf) hDf 11 _ (.int .i64 (n : Int)) (emid P0 s k q n 0) rfl rfl
      obtain ⟨_, _, _, _, _, a4, k4, hv4, _, _, _⟩ := hRI.cells
      obtain ⟨V1, hV1⟩ : ∃ V1, w2.setCell ⟨fb, 11, none⟩ (.int .i64 (n : Int)) = V1 := ⟨_, rfl⟩
      rw [hV1] at m3 m4 m5
      have hFr1 : Fr (fun k => k = rb ∨ k = fb ∨ ¬ K' k) W4 V1 := hFr.trans (m5.mono (fun i hi => .inl (by rcases hi with hi | hi; exact .inl hi; exact .inr (.inl hi))))
      obtain ⟨hrow1, hFw1⟩ := HKEY.out V1 hFr1
      obtain ⟨t0, t1, t2, t3, t4⟩ := (HK.of m3 hrow1).2
      have t11 : V1.cell? ⟨fb, 11, none⟩ = some (.int .i64 (n : Int)) := (row_cell m4 11 _ rfl).1
      obtain ⟨r0, r1, r2⟩ := RK.of m3
      obtain ⟨p4, hp4⟩ : ∃ p4, p2 + 4 = p4 := ⟨_, rfl⟩
      have hp4q : (p2 : Int) + 4 = (p4 : Int) := by omega
      have hp4w : IntKind.i64.wrap (p4 : Int) = (p4 : Int) := by rw [IntKind.wrap_i64]; omega
      obtain ⟨j1, j2⟩ := m3.go p4 (by omega)
      have m4' := m4.kept j2 hfr
      have hFr2 : Fr (fun k => k = rb ∨ k = fb ∨ ¬ K' k) W4 (V1.setCell ⟨rb, 1, none⟩ (.int .i64 p4)) := hFr1.trans (j2.mono (fun i hi => .inl (.inl hi)))
      obtain ⟨hrow2, hFw2⟩ := HKEY.out _ hFr2
      obtain ⟨T0, T1, T2, T3, T4⟩ := (HK.of j1 hrow2).2
      have HV1 : Hid (w2.setCell ⟨fb, 11, none⟩ (.int .i64 (n : Int)) = V1) := hV1
      have H45 : Hid (s.csize = true → nsz ≠ n → P (.returned (.tuple #[.int .i64 p2, .int .i64 45])) V1) := fun h1 h2 => HBAD.out _ _ _ (by rw [hff, if_pos ⟨h1, h2⟩]) hFw1
      have HGO : Hid (¬ (s.csize = true ∧ nsz ≠ n) → frameF b most P0 out = if s.csum = true then (if b.length < p2 + 8 then .bad b.length 4 else if le (tk b (p2 + 4) 4) ≠ sm (out1.drop out.length) then .bad (p2 + 4) 46 else .ok (emid P0 s k q n (p2 + 8), out1)) else .ok (emid P0 s k q n (p2 + 4), out1)) := fun h1 => by rw [hff, if_neg h1]
      have HJ : Hid (RfI D rb g o c b most p4 out1 K' (V1.setCell ⟨rb, 1, none⟩ (.int .i64 p4)) ∧ FB fb (emid P0 s k q n 0) (V1.setCell ⟨rb, 1, none⟩ (.int .i64 p4)) ∧ (∀ V, Fr (fun k => k = rb ∨ k = fb ∨ ¬ K' k) (V1.setCell ⟨rb, 1, none⟩ (.int .i64 p4)) V → V.heap[sb]? = some (.cells #[.int .i64 s.block, .bool s.alone, .bool s.bsum, .bool s.csum, .bool s.csize] 24) ∧ Fr (fun k => k = rb ∨ k = fb ∨ ¬ K k) w V)) := ⟨j1, m4', fun V hV => HKEY.out V (hFr2.trans hV)⟩
      have HGE : Hid (out.length ≤ out1.length) := hge
      clear hB hRI hFB hFr hff hV1 m3 m4 m5 hFr1 hrow1 hFw1 j1 j2 m4' hFr2 hrow2 hFw2 HFF HKEY HE hge
      have hsz : s.csize = true ∨ s.csize = false := by cases s.csize <;> simp
      obtain ⟨BB, hBB⟩ : ∃ BB, decide (s.csize = true ∧ nsz ≠ n) = BB := ⟨_, rfl⟩
      have HCZ : Hid ((s.csize = true ∧ ((nsz : Int) != (n : Int)) = BB) ∨ (s.csize = false ∧ BB = false)) := by
        show _ ∨ _
        rcases hsz with hx | hx
        · refine .inl ⟨hx, ?_⟩
          rw [← hBB, Bool.eq_iff_iff]
          simp only [bne_iff_ne, ne_eq, decide_eq_true_eq, hx, true_and]
          omega
        · exact .inr ⟨hx, by rw [← hBB]; exact decide_eq_false (fun h => by rw [hx] at h; exact absurd h.1 (by decide))⟩
      have H45' : Hid (BB = true → P (.returned (.tuple #[.int .i64 p2, .int .i64 45])) V1) := fun h => by
        have := of_decide_eq_true (hBB.trans h)
        exact H45.out this.1 this.2
      have HGO' : Hid (BB = false → _) := fun h => HGO.out (of_decide_eq_false (hBB.trans h))
      clear hsz hBB H45 HGO
      go_upto_region 11 with fail
      rw [HV1.out]
      go_cut [68] (fun v wx => v = .bool BB ∧ wx = V1)
      case first =>
        rcases HCZ.out with ⟨hx, hne⟩ | ⟨hx, rfl⟩
        · rw [hx] at t4
          clear hx HCZ H45' HGO' HJ HBAD HOK
          go_wp2_with fail
          go_meet
          exact ⟨rfl, rfl⟩
        · rw [hx] at t4
          clear hx HCZ H45' HGO' HJ HBAD HOK
          go_wp2_with fail
          go_meet
          exact ⟨rfl, rfl⟩
      case rest =>
        obtain ⟨rfl, hwc⟩ := hcut
        subst hwc
        cases BB with
        | true =>
          have HF : Hid (P (.returned (.tuple #[.int .i64 p2, .int .i64 45])) wc) := H45'.out rfl
          clear H45' HGO' HJ HBAD HOK HCZ
          go_wp2_with fail
          exact HF.out
        | false =>
          have hff := HGO'.out rfl
          clear H45' HGO' HCZ t0 t1 t2 t3 t4 t11
          obtain ⟨j1, m4', KV⟩ := HJ.out
          go_upto_region 14 with fail
          generalize wc.setCell ⟨rb, 1, none⟩ (.int .i64 p4) = V2 at *
          have HTO : Hid (∀ V (q' : Nat), RfI D rb g o c b most q' out1 K' V → FB fb (emid P0 s k q n 0) V → Fr (fun k => k = rb ∨ k = fb ∨ ¬ K' k) V2 V → frameF b most P0 out = .ok (emid P0 s k q n q', out1) → (∃ x, V.cell? ⟨fb, 1, none⟩ = some x) ∧ V.frozen? ⟨fb, 1, none⟩ = false ∧ Hid (P (.returned (.tuple #[.int .i64 0, .int .i64 0])) (V.setCell ⟨fb, 1, none⟩ (.int .i64 q')))) := by
            intro V q' h1 h2 h3 h4
            obtain ⟨a1, a2, a3, a4, a5⟩ := FB.keepRf _ h1 h2 hfr (HKK.out.1 _ hKf) hDf 1 _ (.int .i64 q') (emid P0 s k q n q') rfl rfl
            refine ⟨⟨_, a1⟩, a2, ?_⟩
            exact HOK.out _ _ K' _ h4 HKK.out.1 a3 a4 (KV _ (h3.trans (a5.mono (fun i hi => .inl (by rcases hi with hi | hi; exact .inl hi; exact .inr (.inl hi)))))).2
          have hcs : s.csum = true ∨ s.csum = false := by cases s.csum <;> simp
          rcases hcs with hcs | hcs
          · rw [if_pos hcs] at hff
            rw [hcs] at T3
            have HASF : Hid (∀ v : Bool, decide (p4 + 4 ≤ b.length) = v → Calls Try.prog 34 #[.pointer (some ⟨rb, 0, none⟩), .int .u64 4] V2 fun e w1 => e = .returned (.bool v) ∧ RK rb g o c b.length p4 w1 ∧ Hid (Nw V2 w1)) := fun v hv => has_call j1 4 (by decide) v hv
            by_cases q8 : b.length < p2 + 8
            · have HH : Hid (Calls Try.prog 34 #[.pointer (some ⟨rb, 0, none⟩), .int .u64 4] V2 fun e w1 => e = .returned (.bool false) ∧ RK rb g o c b.length p4 w1 ∧ Hid (Nw V2 w1)) := HASF.out false (decide_eq_false (by omega))
              have HSH : Hid (∀ V, Nw V2 V → Calls Try.prog 50 #[.pointer (some ⟨rb, 0, none⟩)] V fun e w1 => e = .returned (.tuple #[.int .i64 b.length, .int .i64 4]) ∧ w1 = V) := fun V hV => eshort_any (j1.nw hV)
              have HF : Hid (∀ V, Nw V2 V → P (.returned (.tuple #[.int .i64 b.length, .int .i64 4])) V) := fun V hV => HBAD.out _ _ _ (by rw [hff, if_pos q8]) (KV _ hV.any).2
              clear hff HTO HJ HBAD HOK j1 m4' KV HASF hcs
              go_wp2_with (first | (go_at_call 34; (with_reducible refine HH.out.mono ?_); rintro e w5 ⟨rfl, ⟨r0, r1, r2⟩, H5⟩) | (go_at_call 50; (with_reducible refine (HSH.out _ H5.out).mono ?_); rintro e w6 ⟨rfl, rfl⟩))
              exact HF.out _ H5.out
            · rw [if_neg q8] at hff
              have HH : Hid (Calls Try.prog 34 #[.pointer (some ⟨rb, 0, none⟩), .int .u64 4] V2 fun e w1 => e = .returned (.bool true) ∧ RK rb g o c b.length p4 w1 ∧ Hid (Nw V2 w1)) := HASF.out true (decide_eq_true (by omega))
              obtain ⟨p8, hp8⟩ : ∃ p8, p4 + 4 = p8 := ⟨_, rfl⟩
              have hp8q : (p4 : Int) + 4 = (p8 : Int) := by omega
              have hp8w : IntKind.i64.wrap (p8 : Int) = (p8 : Int) := by rw [IntKind.wrap_i64]; omega
              have hz1 : (p8 : Int) ≤ (c : Int) := by omega
              have hz2 : (p4 : Int) ≤ (p8 : Int) := by omega
              have hz3 : p8 - p4 = 4 := by omega
              have hz4 : ¬ c = p4 := by omega
              have hz5 : p8 ≤ c := by omega
              have hz6 : p4 ≤ p8 := by omega
              have hz8 : (0 : Int) ≤ (p4 : Int) := by omega
              rw [show p2 + 8 = p8 by omega, hp4] at hff
              have HNU : Hid (∀ V, Nw V2 V → Calls Try.prog 51 #[.slice (some ⟨g, o + p4, none⟩) 4 (c - p4)] V fun e w1 => e = .returned (.int .u64 (le (tk b p4 4))) ∧ w1 = V) := fun V hV => dnumber_any _ _ _ V ((j1.nw hV).sl p4 4 (by omega)) (by rw [tk_length _ _ _ (by omega)]; decide)
              obtain ⟨Q, hQ⟩ : ∃ Q, le (tk b p4 4) = Q := ⟨_, rfl⟩
              rw [hQ] at HNU hff
              obtain ⟨SM, hSM⟩ : ∃ SM, sm (out1.drop out.length) = SM := ⟨_, rfl⟩
              rw [hSM] at hff
              have hSl : SM < 4294967296 := by rw [← hSM]; exact sm_lt _
              have hSw : IntKind.u64.wrap (SM : Int) = (SM : Int) := by rw [IntKind.wrap_u64]; omega
              obtain ⟨ao, ko, hao, hcase⟩ := j1.from2 out.length HGE.out
              have HSS : Hid (∀ vv V, Nw V2 V → Old V vv (out1.drop out.length) → Calls Try.prog 45 #[.int .u32 0, vv] V fun e w1 => e = .returned (.int .u32 SM) ∧ (w1.cell? ⟨rb, 0, none⟩ = some (.slice (some ⟨g, o, none⟩) b.length c) ∧ w1.cell? ⟨rb, 1, none⟩ = some (.int .i64 p4) ∧ w1.cell? ⟨rb, 3, none⟩ = some (.slice ao out1.length ko)) ∧ w1.frozen? ⟨rb, 1, none⟩ = false ∧ Hid (Nw V2 w1)) := by
                intro vv V hV hO
                refine (rsum32_any 0#32 vv _ V hO).mono ?_
                rintro e w1 ⟨rfl, h1⟩
                have h2 := hV.trans h1
                obtain ⟨k0, k1, k2⟩ := RK.of (j1.nw h2)
                refine ⟨?_, ⟨k0, k1, h2.cell hao⟩, k2, h2⟩
                rw [← hSM]; rfl
              have HK5 : Hid (∀ V, Nw V2 V → V.cell? ⟨rb, 0, none⟩ = some (.slice (some ⟨g, o, none⟩) b.length c) ∧ V.cell? ⟨rb, 1, none⟩ = some (.int .i64 p4) ∧ V.cell? ⟨rb, 3, none⟩ = some (.slice ao out1.length ko)) := fun V hV => ⟨(RK.of (j1.nw hV)).1, (RK.of (j1.nw hV)).2.1, hV.cell hao⟩
              have HEND : Hid ((Q ≠ SM → ∀ V, Nw V2 V → P (.returned (.tuple #[.int .i64 p4, .int .i64 46])) V) ∧ (¬ Q ≠ SM → ∀ V, Nw V2 V → (V.setCell ⟨rb, 1, none⟩ (.int .i64 p8)).cell? ⟨rb, 1, none⟩ = some (.int .i64 p8) ∧ (∃ x, (V.setCell ⟨rb, 1, none⟩ (.int .i64 p8)).cell? ⟨fb, 1, none⟩ = some x) ∧ (V.setCell ⟨rb, 1, none⟩ (.int .i64 p8)).frozen? ⟨fb, 1, none⟩ = false ∧ Hid (P (.returned (.tuple #[.int .i64 0, .int .i64 0])) ((V.setCell ⟨rb, 1, none⟩ (.int .i64 p8)).setCell ⟨fb, 1, none⟩ (.int .i64 p8))))) := by
                refine ⟨fun hx V hV => HBAD.out _ _ _ (by rw [hff, if_pos hx]) (KV _ hV.any).2, fun hx V hV => ?_⟩
                rw [if_neg hx] at hff
                obtain ⟨l1, l2⟩ := (j1.nw hV).go p8 (by omega)
                have hb' := (m4'.nw hV).kept l2 hfr
                obtain ⟨e1, e2, e3⟩ := HTO.out _ p8 l1 hb' (hV.any.trans (l2.mono (fun i hi => .inl (.inl hi)))) hff
                exact ⟨(RK.of l1).2.1, e1, e2, e3⟩
              obtain ⟨ol, hol⟩ : ∃ ol, out.length = ol := ⟨_, rfl⟩
              obtain ⟨ol1, hol1'⟩ : ∃ ol1, out1.length = ol1 := ⟨_, rfl⟩
              have hgel := HGE.out
              rw [hol, hol1'] at hgel
              rw [hol1'] at HSS HK5 hcase hao
              rw [hol] at hcase HSS
              clear hff HTO HJ HBAD HOK j1 m4' KV HASF hcs hQ hSM HGE T0 T1 T2 T4 hao
              have hzo : (ol : Int) ≤ (ol1 : Int) := by omega
              go_upto_region 17 with (first | (go_at_call 34; (with_reducible refine HH.out.mono ?_); rintro e w5 ⟨rfl, ⟨r0, r1, r2⟩, H5⟩))
              obtain ⟨z0, z1, z2⟩ := HK5.out _ H5.out
              obtain ⟨zz0, zz1, zz2⟩ := HK5.out _ (H5.out.drew)
              have HNUd := HNU.out _ (H5.out.drew)
              have HNU1 : Hid (Calls Try.prog 51 #[.slice (some ⟨g, o + p4, none⟩) 4 (c - p4)] w5.drew _) := HNUd
              clear HNU HNUd HH
              generalize b.length = L at *
              rcases hcase with ⟨rfl, rfl, rfl, hol0, hO⟩ | ⟨g2, rfl, hk1, hk2, hk3, hO⟩
              · subst hol0
                have HSM1 : Hid (Calls Try.prog 45 #[.int .u32 0, .slice none 0 0] w5.drew _) := HSS.out _ _ (H5.out.drew) (hO _ H5.out.drew)
                clear HSS HK5 hO
                by_cases hqs : Q ≠ SM
                · have hne : ((Q : Int) != (SM : Int)) = true := by simp; omega
                  have HF := HEND.out.1 hqs
                  have HFh : Hid (∀ V, Nw V2 V → P (.returned (.tuple #[.int .i64 p4, .int .i64 46])) V) := HF
                  clear HEND HF hqs
                  go_region_held3 (fun w' => w'.cell? ⟨rb, 0, none⟩ = some (.slice (some ⟨g, o, none⟩) L c) ∧ w'.cell? ⟨rb, 1, none⟩ = some (.int .i64 p4) ∧ w'.cell? ⟨rb, 3, none⟩ = some (.slice none 0 0))
                    (first | exact ⟨z0, z1, z2⟩ | exact ⟨zz0, zz1, zz2⟩ | assumption)
                    (first | (go_at_call 51; (with_reducible refine HNU1.out.mono ?_); rintro e w6 ⟨rfl, rfl⟩) | (go_at_call 45; (with_reducible refine HSM1.out.mono ?_); rintro e w7 ⟨rfl, hS7, hfz7, H7⟩))
                  obtain ⟨y0, y1, y2⟩ := hS7
                  go_wp2_with fail
                  exact HFh.out _ H7.out
                · have hne : ((Q : Int) != (SM : Int)) = false := by simp; omega
                  have HF := HEND.out.2 hqs
                  have HFh : Hid (∀ V, Nw V2 V → _) := HF
                  clear HEND HF hqs
                  go_region_held3 (fun w' => w'.cell? ⟨rb, 0, none⟩ = some (.slice (some ⟨g, o, none⟩) L c) ∧ w'.cell? ⟨rb, 1, none⟩ = some (.int .i64 p4) ∧ w'.cell? ⟨rb, 3, none⟩ = some (.slice none 0 0))
                    (first | exact ⟨z0, z1, z2⟩ | exact ⟨zz0, zz1, zz2⟩ | assumption)
                    (first | (go_at_call 51; (with_reducible refine HNU1.out.mono ?_); rintro e w6 ⟨rfl, rfl⟩) | (go_at_call 45; (with_reducible refine HSM1.out.mono ?_); rintro e w7 ⟨rfl, hS7, hfz7, H7⟩))
                  obtain ⟨y0, y1, y2⟩ := hS7
                  obtain ⟨u1, ⟨x9, u2⟩, u3, HFF⟩ := HFh.out _ H7.out
                  go_upto_region 20 with fail
                  generalize w7.setCell ⟨rb, 1, none⟩ (.int .i64 p8) = V8 at *
                  go_wp2_with fail
                  exact HFF.out
              · rcases hO with ⟨hkb, hob, hO⟩ | ⟨hkn, hO⟩
                · subst hkb
                  subst hob
                  have HSM1 : Hid (Calls Try.prog 45 #[.int .u32 0, .slice (some ⟨g2, 0, none⟩) 0 0] w5.drew _) := HSS.out _ _ (H5.out.drew) (hO _ _ H5.out.drew)
                  clear HSS HK5 hO
                  by_cases hqs : Q ≠ SM
                  · have hne : ((Q : Int) != (SM : Int)) = true := by simp; omega
                    have HF := HEND.out.1 hqs
                    have HFh : Hid (∀ V, Nw V2 V → P (.returned (.tuple #[.int .i64 p4, .int .i64 46])) V) := HF
                    clear HEND HF hqs
                    go_region_held3 (fun w' => w'.cell? ⟨rb, 0, none⟩ = some (.slice (some ⟨g, o, none⟩) L c) ∧ w'.cell? ⟨rb, 1, none⟩ = some (.int .i64 p4) ∧ w'.cell? ⟨rb, 3, none⟩ = some (.slice (some ⟨g2, 0, none⟩) ol1 ol1))
                      (first | exact ⟨z0, z1, z2⟩ | exact ⟨zz0, zz1, zz2⟩ | assumption)
                      (first | (go_at_call 51; (with_reducible refine HNU1.out.mono ?_); rintro e w6 ⟨rfl, rfl⟩) | (go_at_call 45; (with_reducible refine HSM1.out.mono ?_); rintro e w7 ⟨rfl, hS7, hfz7, H7⟩))
                    obtain ⟨y0, y1, y2⟩ := hS7
                    go_wp2_with fail
                    exact HFh.out _ H7.out
                  · have hne : ((Q : Int) != (SM : Int)) = false := by simp; omega
                    have HF := HEND.out.2 hqs
                    have HFh : Hid (∀ V, Nw V2 V → _) := HF
                    clear HEND HF hqs
                    go_region_held3 (fun w' => w'.cell? ⟨rb, 0, none⟩ = some (.slice (some ⟨g, o, none⟩) L c) ∧ w'.cell? ⟨rb, 1, none⟩ = some (.int .i64 p4) ∧ w'.cell? ⟨rb, 3, none⟩ = some (.slice (some ⟨g2, 0, none⟩) ol1 ol1))
                      (first | exact ⟨z0, z1, z2⟩ | exact ⟨zz0, zz1, zz2⟩ | assumption)
                      (first | (go_at_call 51; (with_reducible refine HNU1.out.mono ?_); rintro e w6 ⟨rfl, rfl⟩) | (go_at_call 45; (with_reducible refine HSM1.out.mono ?_); rintro e w7 ⟨rfl, hS7, hfz7, H7⟩))
                    obtain ⟨y0, y1, y2⟩ := hS7
                    obtain ⟨u1, ⟨x9, u2⟩, u3, HFF⟩ := HFh.out _ H7.out
                    go_upto_region 20 with fail
                    generalize w7.setCell ⟨rb, 1, none⟩ (.int .i64 p8) = V8 at *
                    go_wp2_with fail
                    exact HFF.out
                · have hkz : (ol : Int) ≤ (ko : Int) := by omega
                  have HSM1 : Hid (Calls Try.prog 45 #[.int .u32 0, .slice (some ⟨g2, ol, none⟩) (ol1 - ol) (ko - ol)] w5.drew _) := HSS.out _ _ (H5.out.drew) (hO _ H5.out.drew)
                  clear HSS HK5 hO
                  by_cases hqs : Q ≠ SM
                  · have hne : ((Q : Int) != (SM : Int)) = true := by simp; omega
                    have HF := HEND.out.1 hqs
                    have HFh : Hid (∀ V, Nw V2 V → P (.returned (.tuple #[.int .i64 p4, .int .i64 46])) V) := HF
                    clear HEND HF hqs
                    go_region_held3 (fun w' => w'.cell? ⟨rb, 0, none⟩ = some (.slice (some ⟨g, o, none⟩) L c) ∧ w'.cell? ⟨rb, 1, none⟩ = some (.int .i64 p4) ∧ w'.cell? ⟨rb, 3, none⟩ = some (.slice (some ⟨g2, 0, none⟩) ol1 ko))
                      (first | exact ⟨z0, z1, z2⟩ | exact ⟨zz0, zz1, zz2⟩ | assumption)
                      (first | (go_at_call 51; (with_reducible refine HNU1.out.mono ?_); rintro e w6 ⟨rfl, rfl⟩) | (go_at_call 45; (with_reducible refine HSM1.out.mono ?_); rintro e w7 ⟨rfl, hS7, hfz7, H7⟩))
                    obtain ⟨y0, y1, y2⟩ := hS7
                    go_wp2_with fail
                    exact HFh.out _ H7.out
                  · have hne : ((Q : Int) != (SM : Int)) = false := by simp; omega
                    have HF := HEND.out.2 hqs
                    have HFh : Hid (∀ V, Nw V2 V → _) := HF
                    clear HEND HF hqs
                    go_region_held3 (fun w' => w'.cell? ⟨rb, 0, none⟩ = some (.slice (some ⟨g, o, none⟩) L c) ∧ w'.cell? ⟨rb, 1, none⟩ = some (.int .i64 p4) ∧ w'.cell? ⟨rb, 3, none⟩ = some (.slice (some ⟨g2, 0, none⟩) ol1 ko))
                      (first | exact ⟨z0, z1, z2⟩ | exact ⟨zz0, zz1, zz2⟩ | assumption)
                      (first | (go_at_call 51; (with_reducible refine HNU1.out.mono ?_); rintro e w6 ⟨rfl, rfl⟩) | (go_at_call 45; (with_reducible refine HSM1.out.mono ?_); rintro e w7 ⟨rfl, hS7, hfz7, H7⟩))
                    obtain ⟨y0, y1, y2⟩ := hS7
                    obtain ⟨u1, ⟨x9, u2⟩, u3, HFF⟩ := HFh.out _ H7.out
                    go_upto_region 20 with fail
                    generalize w7.setCell ⟨rb, 1, none⟩ (.int .i64 p8) = V8 at *
                    go_wp2_with fail
                    exact HFF.out
          · rw [if_neg (by rw [hcs]; decide)] at hff
            rw [hcs] at T3
            rw [hp4] at hff
            obtain ⟨⟨x, c1⟩, c2, HF⟩ := HTO.out V2 p4 j1 m4' (Fr.refl _ _) hff
            obtain ⟨r0, r1, r2⟩ := RK.of j1
            clear hff HTO HJ HBAD HOK j1 m4' KV hcs
            go_wp2_with fail
            exact HF.out
    · clear v0 v1 v2 v3 v4 BL HFF HBAD HOK HKEY
      go_wp2_with fail
      go_roundg (b.length - p3)
      all_goals (first | omega | exact ⟨p3, k2, q2, out2, by omega, by omega, HB2.out⟩)
end Go.Proofs.Ytdeefemeiggolaa

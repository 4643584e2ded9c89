import Derived.Test.YtpjnbhflnbhnoaaGreatDoorWay
import Derived.Lib.BytesEntry
import Derived.Lib.MinMax
import Derived.Deep.CutBlock
import Derived.Deep.RegionHeld3
import Derived.Laws.Tables
namespace Go.Proofs.YtpjnbhflnbhnoaaGreatDoor
open Go.RowKit
set_option linter.unusedVariables false
variable {D rb : Nat} {va : Option Addr} {vc : Nat} {b : List By} {p : Nat} {w : World}
/-- Where the first 0 stands, or -1. -/
def idx (l : List By) : Int := Lib.indexByte (l.map u8) 0
theorem index_ub (l : List UInt8) (c : UInt8) : Lib.indexByte l c < (l.length : Int) ∨ (l = [] ∧ Lib.indexByte l c = -1) := by
  induction l with
  | nil => exact .inr ⟨rfl, rfl⟩
  | cons x r ih =>
    left
    unfold Lib.indexByte
    split
    · simp only [List.length_cons]; omega
    · split
      · simp only [List.length_cons]; omega
      · simp only [List.length_cons]
        rcases ih with h | ⟨_, h⟩ <;> omega
theorem idx_lt (l : List By) : -1 ≤ idx l ∧ (0 ≤ idx l → idx l < l.length) := by
  have h1 := Lib.indexByte_ge (l.map u8) 0
  have h2 := index_ub (l.map u8) 0
  rw [List.length_map] at h2
  unfold idx
  refine ⟨h1, fun h => ?_⟩
  rcases h2 with h2 | ⟨_, h2⟩ <;> omega
set_option maxHeartbeats 1000000 in
set_option maxRecDepth 100000 in
theorem indexb_any (w : World) (g o n c : Nat) (l : List By) (hn : l.length = n) (hr : Rd g o l w) : Calls Tryz.prog 127 #[.slice (some ⟨g, o, none⟩) n c, .int .u8 0] w fun e w' => e = .returned (.int .i64 (idx l)) ∧ w = w' := by
  obtain ⟨P, hP⟩ : ∃ P : Ending → World → Prop, P = fun e w' => e = .returned (.int .i64 (idx l)) ∧ w = w' := ⟨_, rfl⟩
  rw [← hP]
  have HF : Hid (P (.returned (.int .i64 (idx l))) w) := by rw [hP]; exact ⟨rfl, rfl⟩
  have hrun := Lib.run_indexByteSlice (P := Tryz.prog) (w := w) g o n c (l.map (fun x => (x.toNat : Int))) (by rw [List.length_map]; exact hn) (fun i hi => by
    rw [hr i (by omega), List.getD_eq_getElem?_getD, List.getElem?_map, List.getElem?_eq_getElem (by omega)]
    rfl) 0
  have e : Lib.indexByte (Lib.bytesOf (l.map (fun x => (x.toNat : Int)))) (0 : Int).toNat.toUInt8 = idx l := by
    unfold idx Lib.bytesOf
    rw [List.map_map]
    rfl
  rw [e] at hrun
  clear hP e hr hn
  generalize idx l = r at *
  go_enter Tryz.func127, Tryz.ntmps127
  go_wp2
  rw [run_callFunc_extern Tryz.func161 (by kernel_rfl) (by kernel_rfl) (by kernel_rfl) (e := Extern.BytealgIndexByte.indexByte) (by kernel_rfl), hrun]
  simp only [Result.andThen]
  rw [Oper.upon_value]
  go_wp2
  first | exact HF.out | (go_ret; exact HF.out)
end Go.Proofs.YtpjnbhflnbhnoaaGreatDoor

namespace Go.Proofs.YtpjnbhflnbhnoaaGreatDoor
open Go.RowKit
set_option linter.unusedVariables false
variable {D rb : Nat} {va : Option Addr} {vc : Nat} {b : List By} {p : Nat} {w : World}
def textL (b : List By) (p : Nat) : List By := (b.drop p).take 65536
/-- A text and the 0 behind it. -/
def textH : HR (List By) := fun b p => if idx (textL b p) < 0 then (if 65535 < (textL b p).length then .bad 2 else .bad 4) else .ok ((b.drop p).take (idx (textL b p)).toNat) (p + ((idx (textL b p)).toNat + 1))
/-- A text's value. -/
def vT (l : List By) (v : Value) (_ : World) : Prop := v = .string (str l)
set_option maxHeartbeats 16000000 in
set_option maxRecDepth 100000 in
theorem ytext_any (h : Yr D rb va vc b p w) (h0 : 0 < b.length) : Calls Tryz.prog 84 #[.pointer (some ⟨rb, 0, none⟩)] w (Yq D rb va vc b w (textH b p) vT) := by
  obtain ⟨P, hP⟩ : ∃ P : Ending → World → Prop, P = Yq D rb va vc b w (textH b p) vT := ⟨_, rfl⟩
  rw [← hP]
  obtain ⟨g, o, rfl, hgD, hcb, hc2, hrd⟩ := h.form h0
  have hbl := h.bl
  have hpl := h.pl
  have x0 := (row_cell h.row 0 _ rfl).1
  have x1 := (row_cell h.row 1 _ rfl).1
  obtain ⟨r, hr⟩ : ∃ r, r = idx (textL b p) := ⟨_, rfl⟩
  obtain ⟨hr1, hr2⟩ := idx_lt (textL b p)
  rw [← hr] at hr1 hr2
  have hML : (textL b p).length = min (b.length - p) 65536 := by unfold textL; rw [List.length_take, List.length_drop, Nat.min_comm]
  obtain ⟨M, hM⟩ : ∃ M, M = (textL b p).length := ⟨_, rfl⟩
  rw [← hM] at hML hr2
  obtain ⟨N, hN⟩ : ∃ N, N = b.length - p := ⟨_, rfl⟩
  rw [← hN] at hML
  have hMN : M ≤ N := by omega
  have HIX : Hid (∀ V a' c', Nw w V → Rd g a' (b.drop p) V → Calls Tryz.prog 127 #[.slice (some ⟨g, a', none⟩) M c', .int .u8 0] V fun e w' => e = .returned (.int .i64 r) ∧ V = w') := fun V a' c' hV hR => by
    have := indexb_any V g a' M c' (textL b p) hM.symm (hR.take 65536)
    rw [← hr] at this
    exact this
  have HRD : Hid (∀ V, Nw w V → Rd g (o + p) (b.drop p) V) := fun V hV => (hrd.nw hV).drop p
  have HRE : Hid (N = 0 → ∀ V, Rd g o (b.drop p) V) := fun e V => by
    have : b.drop p = [] := List.drop_eq_nil_of_le (by omega)
    rw [this]
    intro i hi; simp at hi
  have HBAD : Hid (∀ y V, textH b p = .bad y → Nw w V → P (gv y) V) := fun y V e hV => by rw [hP, e]; exact .inl ⟨y, rfl, rfl, hV.any⟩
  have HOK : Hid (0 ≤ r → ∀ V, Nw w V → Calls Tryz.prog 83 #[.pointer (some ⟨rb, 0, none⟩), .int .i64 r] V fun e w1 => ∃ a1 n1 c1, e = .returned (.slice a1 n1 c1) ∧ (convert 22 9 (.slice a1 n1 c1)).run Tryz.prog w1 = .ok (.string (str ((b.drop p).take r.toNat))) w1 ∧ Hid (Calls Tryz.prog 83 #[.pointer (some ⟨rb, 0, none⟩), .int .i64 1] w1 fun e w2 => ∃ a2 n2 c2, e = .returned (.slice a2 n2 c2) ∧ Hid (P (.returned (.string (str ((b.drop p).take r.toNat)))) w2))) := fun hr0 V hV => by
    have hrl := hr2 hr0
    obtain ⟨q, hq⟩ : ∃ q : Nat, r = q := ⟨r.toNat, by omega⟩
    have hqn : q < M := by omega
    have hte : textH b p = .ok ((b.drop p).take q) (p + (q + 1)) := by
      unfold textH
      rw [← hr, if_neg (by omega), hq]
      rfl
    rw [hq, Int.toNat_natCast]
    refine (ytake_ok (h.nw hV) q (by omega) h0).mono ?_
    rintro e w1 ⟨v, rfl, ⟨a1, c1, rfl, _, _, hs1, _⟩, hy1, f1⟩
    refine ⟨a1, q, c1, rfl, conv_any hs1, ?_⟩
    show Calls _ _ _ _ _
    refine (ytake_ok hy1 1 (by omega) h0).mono ?_
    rintro e w2 ⟨v2, rfl, ⟨a2, c2, rfl, _, _, _, _⟩, hy2, f2⟩
    refine ⟨a2, 1, c2, rfl, ?_⟩
    show P _ _
    rw [hP, hte]
    refine .inr ⟨_, _, _, rfl, rfl, rfl, ?_, (hV.any.trans f1).trans f2⟩
    rw [← Nat.add_assoc]; exact hy2
  have HG : Hid (∀ y V, Calls Tryz.prog 125 #[.int .i64 (y : Nat)] V fun e w' => e = gv y ∧ w' = V) := fun y V => zgiveUp_any y V
  have HB2 : Hid (r < 0 → 65535 < M → textH b p = .bad 2) := fun e1 e2 => by unfold textH; rw [← hr, if_pos e1, ← hM, if_pos e2]
  have HB4 : Hid (r < 0 → ¬ 65535 < M → textH b p = .bad 4) := fun e1 e2 => by unfold textH; rw [← hr, if_pos e1, ← hM, if_neg e2]
  have hNb : N + p = b.length := by omega
  have HS : Hid (str ((b.drop p).take r.toNat) = str ((b.drop p).take r.toNat)) := rfl
  clear h hP hrd hr hM hN
  generalize str ((b.drop p).take r.toNat) = sv at *
  generalize b.length = L at *
  have hz1 : (p : Int) ≤ (L : Int) := by omega
  have hz2 : (L : Int) ≤ (vc : Int) := by omega
  have hz3 : (0 : Int) ≤ (p : Int) := by omega
  have hLp : L - p = N := by omega
  go_enter Tryz.func84, Tryz.ntmps84
  go_wp2_with fail
  go_cut [3] (fun v wx => ∃ a' c', v = .slice (some ⟨g, a', none⟩) N c' ∧ N ≤ c' ∧ c' < 9223372036854775808 ∧ Hid (Nw w wx ∧ Rd g a' (b.drop p) wx))
  case first =>
    clear HIX HBAD HOK HG HB2 HB4 HS
    by_cases hcp : vc = p
    · have HN0 : Hid (N = 0) := by show N = 0; omega
      go_quiet (fail)
      all_goals go_wp2_with fail
      all_goals go_meet
      all_goals exact ⟨_, _, rfl, by have := HN0.out; omega, by omega, (Fr.refl _ _).drewN _, HRE.out HN0.out _⟩
    · go_quiet (fail)
      all_goals go_wp2_with fail
      all_goals go_meet
      all_goals exact ⟨_, _, rfl, by omega, by omega, (Fr.refl _ _).drewN _, HRD.out _ ((Fr.refl _ _).drewN _)⟩
  case rest =>
  obtain ⟨a', c', rfl, hN1, hN2, HQ⟩ := hcut
  have HI2 := toHid2 (HIX.out wc a' c' HQ.out.1 HQ.out.2)
  have HNW : Hid (Nw w wc) := HQ.out.1
  clear HIX HRD HRE HQ
  have hmin : min (N : Int) 65536 = (M : Int) := by omega
  have hmn : min N 65536 = M := hML.symm
  have hmin2 : ¬ ((N : Int) ≤ 65536) → (M : Int) = 65536 := by omega
  have hmin3 : (N : Int) ≤ 65536 → (M : Int) = N := by omega
  have y1 : (M : Int) ≤ (N : Int) := by omega
  have y2 : (M : Int) ≤ (c' : Int) := by omega
  have y3 : (0 : Int) ≤ (M : Int) := by omega
  have HM16 : Hid (M ≤ 65536) := by show M ≤ 65536; omega
  clear hML hmin2 hmin3
  by_cases hr0 : r < 0
  · by_cases hMl : 65535 < M
    · have HF := toHid2 (HBAD.out 2 wc (HB2.out hr0 hMl) HNW.out)
      have HG2 : Hid (∀ V, Calls Tryz.prog 125 #[.int .i64 2] V fun e w' => e = gv 2 ∧ w' = V) := fun V => zgiveUp_any 2 V
      have hz5 : (65535 : Int) < (M : Int) := by omega
      clear HBAD HOK HG HB2 HB4 HS HNW
      go_wp2_with (first
        | (go_at_call 127; with_reducible refine HI2.out.mono ?_; rintro e w1 ⟨rfl, rfl⟩)
        | (go_at_call 125; with_reducible refine (HG2.out _).mono ?_; rintro e w3 ⟨rfl, rfl⟩))
      exact ⟨rfl, HF.out⟩
    · have HF := toHid2 (HBAD.out 4 wc (HB4.out hr0 hMl) HNW.out)
      have HG2 : Hid (∀ V, Calls Tryz.prog 125 #[.int .i64 4] V fun e w' => e = gv 4 ∧ w' = V) := fun V => zgiveUp_any 4 V
      have hz5 : ¬ (65535 : Int) < (M : Int) := by omega
      clear HBAD HOK HG HB2 HB4 HS HNW
      go_wp2_with (first
        | (go_at_call 127; with_reducible refine HI2.out.mono ?_; rintro e w1 ⟨rfl, rfl⟩)
        | (go_at_call 125; with_reducible refine (HG2.out _).mono ?_; rintro e w3 ⟨rfl, rfl⟩))
      exact ⟨rfl, HF.out⟩
  · have HK := toHid2 (HOK.out (by omega) wc HNW.out)
    have hz6 : 0 ≤ r := by omega
    clear HBAD HOK HG HB2 HB4 HS HNW hr1 hr2
    go_wp2_with (first
      | (go_at_call 127; with_reducible refine HI2.out.mono ?_; rintro e w1 ⟨rfl, rfl⟩)
      | (go_at_call 83; with_reducible refine HK.out.mono ?_; rintro e w2 ⟨a1, n1, c1, rfl, cv, H2⟩)
      | (go_at_call 83; with_reducible refine H2.out.mono ?_; rintro e w3 ⟨a2, n2, c2, rfl, H3⟩))
    exact H3.out
end Go.Proofs.YtpjnbhflnbhnoaaGreatDoor

namespace Go.Proofs.YtpjnbhflnbhnoaaGreatDoor
open Go.RowKit
set_option linter.unusedVariables false
variable {D rb : Nat} {va : Option Addr} {vc : Nat} {b : List By} {p : Nat} {w : World}
/-- The head's sum. -/
def sumH : HR Unit := fun b p => (mustH (fun x => decide (x.toNat = sumS (b.take p) % 256)) 82 b p).bind fun _ p1 => (mustH (fun x => decide (x.toNat = sumS (b.take p) / 256 % 256)) 82 b p1).bind fun _ p2 => .ok () p2
/-- Nothing is told. -/
def vN (_ : Unit) (_ : Value) (_ : World) : Prop := True
set_option maxHeartbeats 16000000 in
set_option maxRecDepth 100000 in
theorem ysum_any (h : Yr D rb va vc b p w) (h0 : 0 < b.length) (hT : TabT w) (hrt : rb ≠ 0) : Calls Tryz.prog 85 #[.pointer (some ⟨rb, 0, none⟩)] w (Yq D rb va vc b w (sumH b p) vN) := by
  obtain ⟨P, hP⟩ : ∃ P : Ending → World → Prop, P = Yq D rb va vc b w (sumH b p) vN := ⟨_, rfl⟩
  rw [← hP]
  obtain ⟨g, o, rfl, hgD, hcb, hc2, hrd⟩ := h.form h0
  have hbl := h.bl
  have hpl := h.pl
  have x0 := (row_cell h.row 0 _ rfl).1
  have x1 := (row_cell h.row 1 _ rfl).1
  obtain ⟨s, hs⟩ : ∃ s, s = sumS (b.take p) := ⟨_, rfl⟩
  have hsl := sumS_lt (b.take p)
  rw [← hs] at hsl
  have hlt : (b.take p).length = p := by rw [List.length_take]; omega
  have hD := h.dr
  have HS : Hid (∀ V, Nw w V → Calls Tryz.prog 12 #[.slice (some ⟨g, o, none⟩) p vc] V fun e w' => e = .returned (.int .u32 (s : Nat)) ∧ w'.cell? ⟨rb, 0, none⟩ = some (.slice (some ⟨g, o, none⟩) b.length vc) ∧ w'.cell? ⟨rb, 1, none⟩ = some (.int .i64 p) ∧ Hid (Nw w w')) := fun V hV => by
    have hsl2 : Sl (fun k => D ≤ k) (.slice (some ⟨g, o, none⟩) p vc) (b.take p) V := .inr ⟨g, by omega, o, vc, by rw [hlt], by omega, by omega, (hrd.nw hV).take p⟩
    refine (zsum_any _ V _ (b.take p) hsl2 (hT.nw hV) (by omega)).mono ?_
    rintro e w' ⟨rfl, rfl⟩
    have hr := (h.nw hV).row
    exact ⟨by rw [hs], (row_cell hr 0 _ rfl).1, (row_cell hr 1 _ rfl).1, hV⟩
  obtain ⟨k1, hk1⟩ : ∃ k1, k1 = s % 256 := ⟨_, rfl⟩
  obtain ⟨s2, hs2⟩ : ∃ s2, s2 = s / 256 := ⟨_, rfl⟩
  obtain ⟨k2, hk2⟩ : ∃ k2, k2 = s2 % 256 := ⟨_, rfl⟩
  have HSH : Hid (sumH b p = (mustH (fun x => decide (x.toNat = k1)) 82 b p).bind fun _ p1 => (mustH (fun x => decide (x.toNat = k2)) 82 b p1).bind fun _ p2 => .ok () p2) := by show _ = _; unfold sumH; rw [← hs, ← hk1, ← hs2, ← hk2]
  have HBAD : Hid (∀ y V, sumH b p = .bad y → Fr (fun k => k = rb) w V → P (gv y) V) := fun y V e hV => by rw [hP, e]; exact .inl ⟨y, rfl, rfl, hV⟩
  have HOK : Hid (∀ q V r, sumH b p = .ok () q → Yr D rb (some ⟨g, o, none⟩) vc b q V → Fr (fun k => k = rb) w V → P (.returned r) V) := fun q V r e hY hV => by rw [hP, e]; exact .inr ⟨(), q, r, rfl, rfl, trivial, hY, hV⟩
  have HY : Hid (Yr D rb (some ⟨g, o, none⟩) vc b p w) := h
  have HRD : Hid (rb < w.heap.size) := (Array.getElem?_eq_some_iff.1 h.row).1
  have e1 : IntKind.u8.wrap (s : Int) = (k1 : Int) := by rw [IntKind.wrap_u8]; omega
  have e2 : (s : Int) / 256 = (s2 : Int) := by omega
  have e3 : IntKind.u8.wrap (s2 : Int) = (k2 : Int) := by rw [IntKind.wrap_u8]; omega
  have l1 : k1 < 256 := by omega
  have l2 : k2 < 256 := by omega
  clear hP h hrd hs hlt hT hk1 hs2 hk2
  generalize b.length = L at *
  have hz1 : (p : Int) ≤ (L : Int) := by omega
  have hz2 : (L : Int) ≤ (vc : Int) := by omega
  have hz3 : (0 : Int) ≤ (p : Int) := by omega
  have hz4 : (p : Int) ≤ (vc : Int) := by omega
  have t0 : w.drew.cell? ⟨rb, 0, none⟩ = some (.slice (some ⟨g, o, none⟩) L vc) := x0
  have t1 : w.drew.cell? ⟨rb, 1, none⟩ = some (.int .i64 p) := x1
  go_enter Tryz.func85, Tryz.ntmps85
  go_wp2_with fail
  go_cut [2] (fun v wx => v = .int .u32 (s : Nat) ∧ Hid (Nw w wx))
  case first =>
    clear HSH HBAD HOK HY HRD
    go_region_held3 (fun W => W.cell? ⟨rb, 0, none⟩ = some (.slice (some ⟨g, o, none⟩) L vc) ∧ W.cell? ⟨rb, 1, none⟩ = some (.int .i64 p))
      (first | assumption | (refine ⟨?_, ?_⟩ <;> assumption))
      (first | (go_at_call 12; with_reducible refine (HS.out _ ?_).mono ?_; (first | exact (Fr.refl _ _).drew | exact Fr.refl _ _); rintro e w1 ⟨rfl, u0, u1, K1⟩))
    all_goals go_wp2_with fail
    all_goals go_meet
    all_goals exact ⟨rfl, K1⟩
  case rest =>
  obtain ⟨rfl, HN⟩ := hcut
  have HB1 : Hid (Calls Tryz.prog 80 #[.int .u8 (k1 : Nat)] wc fun e w' => e = .returned (.func (.func 126) #[] #[.pointer (some ⟨wc.heap.size, 0, none⟩)]) ∧ w' = wc.alloc (.cells #[.int .u8 (k1 : Nat)] 5)) := zbe_any wc k1
  have n1 : Nw wc (wc.alloc (.cells #[.int .u8 (k1 : Nat)] 5)) := (Fr.refl _ _).alloc _
  have hs1 := HN.out.size
  have hrb := HRD.out
  have HM1 : Hid (Calls Tryz.prog 79 #[.pointer (some ⟨rb, 0, none⟩), .func (.func 126) #[] #[.pointer (some ⟨wc.heap.size, 0, none⟩)], .int .i64 82] (wc.alloc (.cells #[.int .u8 (k1 : Nat)] 5)) (Yq D rb (some ⟨g, o, none⟩) vc b (wc.alloc (.cells #[.int .u8 (k1 : Nat)] 5)) (mustH (fun x => decide (x.toNat = k1)) 82 b p) vB)) :=
    ymust_be ((HY.out.nw HN.out).nw n1) 82 wc.heap.size k1 l1 (row_cell (new_heap wc (.cells #[.int .u8 (k1 : Nat)] 5)) 0 _ rfl).1 (by omega)
  have HN1 : Hid (Nw w (wc.alloc (.cells #[.int .u8 (k1 : Nat)] 5))) := HN.out.trans n1
  clear HS n1 HN
  go_wp2_with (first | (go_at_call 80; with_reducible refine HB1.out.mono ?_; rintro e w1 ⟨rfl, rfl⟩))
  go_at_call 79
  with_reducible refine HM1.out.mono ?_
  unfold Yq
  rintro e w1 (⟨y, hy, rfl, f1⟩ | ⟨x, p1, v, hy, rfl, hv, hY1, f1⟩)
  · exact ⟨rfl, HBAD.out y w1 (by rw [HSH.out, hy]; rfl) (HN1.out.any.trans f1)⟩
  · have HF1 : Hid (Fr (fun k => k = rb) w w1) := HN1.out.any.trans f1
    have HY1 : Hid (Yr D rb (some ⟨g, o, none⟩) vc b p1 w1) := hY1
    have HSH1 : Hid (sumH b p = (mustH (fun x => decide (x.toNat = k2)) 82 b p1).bind fun _ p2 => .ok () p2) := by show _ = _; rw [HSH.out, hy]; rfl
    have hv2 : v = .int .u8 x.toNat := hv
    subst hv2
    have s1 := f1.size
    have hrb1 : rb < w1.heap.size := by have := HN1.out.size; omega
    have HB2 : Hid (Calls Tryz.prog 80 #[.int .u8 (k2 : Nat)] w1 fun e w' => e = .returned (.func (.func 126) #[] #[.pointer (some ⟨w1.heap.size, 0, none⟩)]) ∧ w' = w1.alloc (.cells #[.int .u8 (k2 : Nat)] 5)) := zbe_any w1 k2
    have n2 : Nw w1 (w1.alloc (.cells #[.int .u8 (k2 : Nat)] 5)) := (Fr.refl _ _).alloc _
    have HM2 : Hid (Calls Tryz.prog 79 #[.pointer (some ⟨rb, 0, none⟩), .func (.func 126) #[] #[.pointer (some ⟨w1.heap.size, 0, none⟩)], .int .i64 82] (w1.alloc (.cells #[.int .u8 (k2 : Nat)] 5)) (Yq D rb (some ⟨g, o, none⟩) vc b (w1.alloc (.cells #[.int .u8 (k2 : Nat)] 5)) (mustH (fun x => decide (x.toNat = k2)) 82 b p1) vB)) :=
      ymust_be (hY1.nw n2) 82 w1.heap.size k2 l2 (row_cell (new_heap w1 (.cells #[.int .u8 (k2 : Nat)] 5)) 0 _ rfl).1 (by omega)
    have HN2 : Hid (Fr (fun k => k = rb) w (w1.alloc (.cells #[.int .u8 (k2 : Nat)] 5))) := HF1.out.trans n2.any
    clear f1 hY1 hy HM1 HB1 HN1 HSH n2 hv HF1 HY1 HY
    generalize x.toNat = X at *
    go_wp2_with (first | (go_at_call 80; with_reducible refine HB2.out.mono ?_; rintro e w2 ⟨rfl, rfl⟩))
    go_at_call 79
    with_reducible refine HM2.out.mono ?_
    unfold Yq
    rintro e w2 (⟨y, hy, rfl, f2⟩ | ⟨x2, p2, v2, hy, rfl, hv, hY2, f2⟩)
    · exact ⟨rfl, HBAD.out y w2 (by rw [HSH1.out, hy]; rfl) (HN2.out.trans f2)⟩
    · have HF : Hid (∀ r, P (.returned r) w2) := fun r => HOK.out p2 w2 r (by rw [HSH1.out, hy]; rfl) hY2 (HN2.out.trans f2)
      have hv2 : v2 = .int .u8 x2.toNat := hv
      subst hv2
      clear HM2 HB2 HN2 HSH1 hy hv hY2 f2 HBAD HOK
      generalize x2.toNat = X2 at *
      go_wp2_with fail
      first | exact HF.out _ | (go_end0; exact HF.out _)
end Go.Proofs.YtpjnbhflnbhnoaaGreatDoor

namespace Go.Proofs.YtpjnbhflnbhnoaaGreatDoor
open Go.RowKit
set_option linter.unusedVariables false
variable {D rb : Nat} {va : Option Addr} {vc : Nat} {b : List By} {p : Nat} {w : World}
/-- What a head says. -/
structure Md where
  nm : List By
  cm : List By
  ex : List By
  tm : Nat
  fl : By
  sy : By
  tx : Bool
  sm : Bool
def bitN (f : By) (k : Nat) : Bool := decide (f.toNat / 2 ^ k % 2 = 1)
def exH (f : By) : HR (List By) := fun b p => if bitN f 2 then (takeH 2 b p).bind fun n p => takeH (le n) b p else .ok [] p
def txH (c : Bool) : HR (List By) := fun b p => if c then textH b p else .ok [] p
def smH (c : Bool) : HR Unit := fun b p => if c then sumH b p else .ok () p
def h5 (f : By) (t : List By) (x y : By) (ex nm cm : List By) : HR Md := fun b p => (smH (bitN f 1) b p).bind fun _ p => .ok ⟨nm, cm, ex, le t, x, y, bitN f 0, bitN f 1⟩ p
def h4 (f : By) (t : List By) (x y : By) (ex nm : List By) : HR Md := fun b p => (txH (bitN f 4) b p).bind fun cm p => h5 f t x y ex nm cm b p
def h3 (f : By) (t : List By) (x y : By) (ex : List By) : HR Md := fun b p => (txH (bitN f 3) b p).bind fun nm p => h4 f t x y ex nm b p
def h2 (f : By) (t : List By) (x y : By) : HR Md := fun b p => (exH f b p).bind fun ex p => h3 f t x y ex b p
def h1 (f : By) : HR Md := fun b p => (takeH 4 b p).bind fun t p => (mustH (fun _ => true) 0 b p).bind fun x p => (mustH (fun _ => true) 0 b p).bind fun y p => h2 f t x y b p
/-- A head. -/
def headH : HR Md := fun b p => (mustH (fun x => decide (x.toNat = 31)) 130 b p).bind fun _ p => (mustH (fun x => decide (x.toNat = 139)) 130 b p).bind fun _ p => (mustH (fun x => decide (x.toNat = 8)) 80 b p).bind fun _ p => (mustH (fun x => decide (x.toNat < 32)) 81 b p).bind fun f p => h1 f b p
theorem and_bitN (f : By) (k : Nat) (hk : k < 5) : (bits .and .u8 (f.toNat : Int) ((2 ^ k : Nat) : Int) != 0) = bitN f k := by
  have all : ∀ (k : Fin 5) (n : Fin 256), (bits .and .u8 (n.val : Int) ((2 ^ k.val : Nat) : Int) != 0) = decide (n.val / 2 ^ k.val % 2 = 1) := by decide +kernel
  exact all ⟨k, hk⟩ ⟨f.toNat, f.isLt⟩
/-- What is said lies there. -/
def vM (D : Nat) (m : Md) (v : Value) (w : World) : Prop := ∃ ea en ec, v = .agg #[.string (str m.nm), .string (str m.cm), .slice ea en ec, .int .u32 m.tm, .int .u8 m.fl.toNat, .int .u8 m.sy.toNat, .bool m.tx, .bool m.sm] ∧ en = m.ex.length ∧ Mine (fun k => k < D) (.slice ea en ec) m.ex w
end Go.Proofs.YtpjnbhflnbhnoaaGreatDoor

namespace Go.Proofs.YtpjnbhflnbhnoaaGreatDoor
open Go.RowKit
set_option linter.unusedVariables false
variable {D rb rs mb : Nat} {va : Option Addr} {vc : Nat} {b : List By} {p : Nat} {w V : World}
def zrow : Array Value := #[.string ⟨#[]⟩, .string ⟨#[]⟩, .slice none 0 0, .int .u32 0, .int .u8 0, .int .u8 0, .bool false, .bool false]
/-- How the reading of a head stands: the result's variable is still empty. -/
structure Qs (D rb rs : Nat) (va : Option Addr) (vc : Nat) (b : List By) (w : World) (p : Nat) (V : World) : Prop where
  y : Yr D rb va vc b p V
  f : Fr (fun k => k = rb) w V
  r : V.heap[rs]? = some (.cells zrow 25)
  ge : w.heap.size ≤ rs
  lt : rb < w.heap.size
theorem Qs.next {V' : World} {p' : Nat} (h : Qs D rb rs va vc b w p V) (hy : Yr D rb va vc b p' V') (f : Fr (fun k => k = rb) V V') : Qs D rb rs va vc b w p' V' :=
  ⟨hy, h.f.trans f, row_kept h.r f (by have := h.ge; have := h.lt; omega), h.ge, h.lt⟩
theorem Qs.nw {V' : World} (h : Qs D rb rs va vc b w p V) (f : Nw V V') : Qs D rb rs va vc b w p V' := h.next (h.y.nw f) f.any
theorem must_ok {q : By → Bool} {why : Nat} {x : By} {p' : Nat} (h : mustH q why b p = .ok x p') : p' = p + 1 ∧ p < b.length ∧ b[p]? = some x := by
  unfold mustH at h
  cases e : b[p]? with
  | none => rw [e] at h; cases h
  | some z =>
    rw [e] at h
    have hl := (List.getElem?_eq_some_iff.1 e).1
    simp only at h
    split at h
    · injection h with h1 h2
      exact ⟨h2.symm, hl, by rw [h1]⟩
    · cases h
theorem Qs.be (h : Qs D rb rs va vc b w p V) (one why : Nat) (h256 : one < 256) : Calls Tryz.prog 80 #[.int .u8 one] V fun e V1 => ∃ bb, e = .returned (.func (.func 126) #[] #[.pointer (some ⟨bb, 0, none⟩)]) ∧ Hid (Calls Tryz.prog 79 #[.pointer (some ⟨rb, 0, none⟩), .func (.func 126) #[] #[.pointer (some ⟨bb, 0, none⟩)], .int .i64 why] V1 fun e V2 => (∃ y, mustH (fun x => decide (x.toNat = one)) why b p = .bad y ∧ e = gv y ∧ Hid (Fr (fun k => k = rb) w V2)) ∨ (∃ X : Nat, e = .returned (.int .u8 X) ∧ Hid (∃ x, mustH (fun x => decide (x.toNat = one)) why b p = .ok x (p + 1) ∧ X = x.toNat ∧ Qs D rb rs va vc b w (p + 1) V2 ∧ p < b.length))) := by
  refine (zbe_any V one).mono ?_
  rintro e V1 ⟨rfl, rfl⟩
  refine ⟨_, rfl, ?_⟩
  have n1 : Nw V (V.alloc (.cells #[.int .u8 one] 5)) := (Fr.refl _ _).alloc _
  have hs := h.f.size
  have hl := h.lt
  show Calls _ _ _ _ _
  refine (ymust_be (h.y.nw n1) why V.heap.size one h256 (row_cell (new_heap V (.cells #[.int .u8 one] 5)) 0 _ rfl).1 (by omega)).mono ?_
  rintro e V2 (⟨y, hy, rfl, f1⟩ | ⟨x, p1, v, hy, rfl, hv, hY1, f1⟩)
  · exact .inl ⟨y, hy, rfl, (h.f.trans n1.any).trans f1⟩
  · obtain ⟨rfl, hp, _⟩ := must_ok hy
    exact .inr ⟨x.toNat, by rw [show v = .int .u8 x.toNat from hv], x, hy, rfl, (h.nw n1).next hY1 f1, hp⟩
theorem Qs.fl (h : Qs D rb rs va vc b w p V) (why : Nat) : Calls Tryz.prog 79 #[.pointer (some ⟨rb, 0, none⟩), .func (.func 81) #[] #[], .int .i64 why] V fun e V2 => (∃ y, mustH (fun x => decide (x.toNat < 32)) why b p = .bad y ∧ e = gv y ∧ Hid (Fr (fun k => k = rb) w V2)) ∨ (∃ x : By, e = .returned (.int .u8 x.toNat) ∧ Hid (mustH (fun x => decide (x.toNat < 32)) why b p = .ok x (p + 1) ∧ Qs D rb rs va vc b w (p + 1) V2)) := by
  refine (ymust_fl h.y why).mono ?_
  rintro e V2 (⟨y, hy, rfl, f1⟩ | ⟨x, p1, v, hy, rfl, hv, hY1, f1⟩)
  · exact .inl ⟨y, hy, rfl, h.f.trans f1⟩
  · obtain ⟨rfl, hp, _⟩ := must_ok hy
    exact .inr ⟨x, by rw [show v = .int .u8 x.toNat from hv], hy, h.next hY1 f1⟩
/-- And with the variable of what is read. -/
structure Qm (D rb rs mb : Nat) (va : Option Addr) (vc : Nat) (b : List By) (w : World) (p : Nat) (row : Array Value) (V : World) : Prop where
  s : Qs D rb rs va vc b w p V
  m : V.heap[mb]? = some (.cells row 25)
  ne : rs < mb
  pos : 0 < b.length
theorem Qm.next {row : Array Value} {V' : World} {p' : Nat} (h : Qm D rb rs mb va vc b w p row V) (hy : Yr D rb va vc b p' V') (f : Fr (fun k => k = rb) V V') : Qm D rb rs mb va vc b w p' row V' :=
  ⟨h.s.next hy f, row_kept h.m f (by have := h.s.ge; have := h.s.lt; have := h.ne; omega), h.ne, h.pos⟩
theorem Qm.set {row : Array Value} (h : Qm D rb rs mb va vc b w p row V) (j : Nat) (v : Value) : Qm D rb rs mb va vc b w p (row.setIfInBounds j v) (V.setCell ⟨mb, j, none⟩ v) := by
  have f : Fr (fun k => k = mb) V (V.setCell ⟨mb, j, none⟩ v) := (Fr.refl _ _).setCell _ _ (.inl rfl)
  have h1 := h.s.ge
  have h2 := h.s.lt
  have h3 := h.ne
  refine ⟨⟨h.s.y.keep f (by omega) (fun k hk => by have := h.s.y.dr; omega), h.s.f.then f (fun i hi => .inr (by omega)), row_kept h.s.r f (by omega), h.s.ge, h.s.lt⟩, row_set h.m j v, h.ne, h.pos⟩
theorem Qm.num {row : Array Value} (h : Qm D rb rs mb va vc b w p row V) (k : Nat) (hk : k ≤ 8) (hk0 : 0 < k) : Calls Tryz.prog 82 #[.pointer (some ⟨rb, 0, none⟩), .int .i64 k] V fun e V2 => (takeH k b p = .bad 4 ∧ e = gv 4 ∧ Hid (Fr (fun k => k = rb) w V2)) ∨ (e = .returned (.int .u64 (le ((b.drop p).take k))) ∧ Hid (takeH k b p = .ok ((b.drop p).take k) (p + k) ∧ Qm D rb rs mb va vc b w (p + k) row V2)) := by
  by_cases hn : p + k ≤ b.length
  · refine (ynumber_ok h.s.y k hk hk0 hn).mono ?_
    rintro e V2 ⟨rfl, hY, f⟩
    exact .inr ⟨rfl, by unfold takeH; rw [if_pos hn], h.next hY f⟩
  · refine (ynumber_bad h.s.y k hk (by omega)).mono ?_
    rintro e V2 ⟨rfl, hN⟩
    exact .inl ⟨by unfold takeH; rw [if_neg hn], rfl, h.s.f.trans hN.any⟩
theorem Qm.byte {row : Array Value} (h : Qm D rb rs mb va vc b w p row V) : Calls Tryz.prog 83 #[.pointer (some ⟨rb, 0, none⟩), .int .i64 1] V fun e V2 => (mustH (fun _ => true) 0 b p = .bad 4 ∧ e = gv 4 ∧ Hid (Fr (fun k => k = rb) w V2)) ∨ (∃ (x : By) (g o c : Nat), e = .returned (.slice (some ⟨g, o, none⟩) 1 c) ∧ V2.cell? ⟨g, o, none⟩ = some (.int .u8 x.toNat) ∧ Hid (mustH (fun _ => true) 0 b p = .ok x (p + 1) ∧ Qm D rb rs mb va vc b w (p + 1) row V2)) := by
  by_cases hn : p + 1 ≤ b.length
  · obtain ⟨x, hx⟩ : ∃ x, b[p]? = some x := ⟨_, List.getElem?_eq_getElem (by omega)⟩
    have hone : (b.drop p).take 1 = [x] := by rw [List.take_one, List.head?_drop, hx]; rfl
    refine (ytake_ok h.s.y 1 hn h.pos).mono ?_
    rintro e V2 ⟨v, rfl, ⟨a, k, rfl, _, _, _, h1⟩, hY, f⟩
    obtain ⟨g, o, rfl, _, hr⟩ := h1 (by decide)
    rw [hone] at hr
    exact .inr ⟨x, g, o, k, rfl, hr 0 (by simp), by unfold mustH; rw [hx]; rfl, h.next hY f⟩
  · refine (ytake_bad h.s.y 1 (by omega) (by decide)).mono ?_
    rintro e V2 ⟨rfl, hN⟩
    exact .inl ⟨by unfold mustH; rw [List.getElem?_eq_none (by omega)], rfl, h.s.f.trans hN.any⟩
theorem Qm.text {row : Array Value} (h : Qm D rb rs mb va vc b w p row V) : Calls Tryz.prog 84 #[.pointer (some ⟨rb, 0, none⟩)] V fun e V2 => (∃ y, textH b p = .bad y ∧ e = gv y ∧ Hid (Fr (fun k => k = rb) w V2)) ∨ (∃ s p', e = .returned (.string (str s)) ∧ Hid (textH b p = .ok s p' ∧ Qm D rb rs mb va vc b w p' row V2)) := by
  refine (ytext_any h.s.y h.pos).mono ?_
  rintro e V2 (⟨y, hy, rfl, f1⟩ | ⟨x, p1, v, hy, rfl, hv, hY1, f1⟩)
  · exact .inl ⟨y, hy, rfl, h.s.f.trans f1⟩
  · exact .inr ⟨x, p1, by rw [show v = .string (str x) from hv], hy, h.next hY1 f1⟩
theorem Qm.sum {row : Array Value} (h : Qm D rb rs mb va vc b w p row V) (hT : TabT w) (hrt : rb ≠ 0) : Calls Tryz.prog 85 #[.pointer (some ⟨rb, 0, none⟩)] V fun e V2 => (∃ y, sumH b p = .bad y ∧ e = gv y ∧ Hid (Fr (fun k => k = rb) w V2)) ∨ (∃ v p', e = .returned v ∧ Hid (sumH b p = .ok () p' ∧ Qm D rb rs mb va vc b w p' row V2)) := by
  refine (ysum_any h.s.y h.pos (hT.kept h.s.f (fun e => hrt e.symm)) hrt).mono ?_
  rintro e V2 (⟨y, hy, rfl, f1⟩ | ⟨x, p1, v, hy, rfl, hv, hY1, f1⟩)
  · exact .inl ⟨y, hy, rfl, h.s.f.trans f1⟩
  · exact .inr ⟨v, p1, rfl, hy, h.next hY1 f1⟩
end Go.Proofs.YtpjnbhflnbhnoaaGreatDoor

namespace Go.Proofs.YtpjnbhflnbhnoaaGreatDoor
open Go.RowKit
set_option linter.unusedVariables false
variable {D rb : Nat} {va : Option Addr} {vc : Nat} {b : List By} {p : Nat} {w : World}
theorem le_take_lt (l : List By) (k : Nat) : le (l.take k) < 256 ^ k := by
  have h := le_lt (l.take k)
  have : (l.take k).length ≤ k := by rw [List.length_take]; omega
  exact Nat.lt_of_lt_of_le h (Nat.pow_le_pow_right (by decide) this)
theorem hdret {R : Ending → World → Prop} {a : Act} {w : World} {row : Array Value} (rs : Nat) (h1 : a.tmps.getD 2 undef = .pointer (some ⟨rs, 0, none⟩)) (hrow : w.heap[rs]? = some (.cells row 25)) (hsz : row.size = 8) (hd : a.defers = []) (hR : R (.returned (.agg row)) w) : bodyPost Tryz.prog Tryz.f54 R .ret a w := by
  have hi : (Tryz.prog.info? 25).map (·.size) = some row.size := by rw [hsz]; kernel_rfl
  have hl := run_loadVar_row (P := Tryz.prog) w rs 25 25 row (0, 0) _ hrow Tryz.underlying25 rfl hi
  have hp' : a.tmps[2]?.getD undef = .pointer (some ⟨rs, 0, none⟩) := by simpa using h1
  refine bodyPost_ret ?_ hd hR
  simp [results, hp', asAddr, hl]
theorem Qm.nw {rs mb : Nat} {row : Array Value} {V V' : World} (h : Qm D rb rs mb va vc b w p row V) (f : Nw V V') : Qm D rb rs mb va vc b w p row V' := h.next (h.s.y.nw f) f.any
theorem Qm.take {rs mb : Nat} {row : Array Value} {V : World} (h : Qm D rb rs mb va vc b w p row V) (n : Nat) (hn : n < 9223372036854775808) : Calls Tryz.prog 83 #[.pointer (some ⟨rb, 0, none⟩), .int .i64 n] V fun e V2 => (takeH n b p = .bad 4 ∧ e = gv 4 ∧ Hid (Fr (fun k => k = rb) w V2)) ∨ (∃ a c, e = .returned (.slice a n c) ∧ Hid (takeH n b p = .ok ((b.drop p).take n) (p + n) ∧ Sl (fun k => D ≤ k) (.slice a n c) ((b.drop p).take n) V2 ∧ ((b.drop p).take n).length = n ∧ Qm D rb rs mb va vc b w (p + n) row V2)) := by
  by_cases hl : p + n ≤ b.length
  · refine (ytake_ok h.s.y n hl h.pos).mono ?_
    rintro e V2 ⟨v, rfl, ⟨a, k, rfl, _, _, hsl, _⟩, hY, f⟩
    exact .inr ⟨a, k, rfl, by unfold takeH; rw [if_pos hl], hsl, by rw [List.length_take, List.length_drop]; omega, h.next hY f⟩
  · refine (ytake_bad h.s.y n (by omega) hn).mono ?_
    rintro e V2 ⟨rfl, hN⟩
    exact .inl ⟨by unfold takeH; rw [if_neg hl], rfl, h.s.f.trans hN.any⟩
set_option maxHeartbeats 32000000 in
set_option maxRecDepth 100000 in
theorem yhead_any (h : Yr D rb va vc b p w) (hl : rb < w.heap.size) (hDw : D ≤ w.heap.size) (hT : TabT w) (hrt : rb ≠ 0) : Calls Tryz.prog 54 #[.pointer (some ⟨rb, 0, none⟩)] w (Yq D rb va vc b w (headH b p) (vM w.heap.size)) := by
  obtain ⟨P, hP⟩ : ∃ P : Ending → World → Prop, P = Yq D rb va vc b w (headH b p) (vM w.heap.size) := ⟨_, rfl⟩
  rw [← hP]
  obtain ⟨H0, hH0⟩ : ∃ H0, H0 = headH b p := ⟨_, rfl⟩
  have HBAD : Hid (∀ y V, H0 = .bad y → Hid (Fr (fun k => k = rb) w V) → P (gv y) V) := fun y V e hV => by rw [hP, ← hH0, e]; exact .inl ⟨y, rfl, rfl, hV.out⟩
  have HOK : Hid (∀ m q V v, H0 = .ok m q → Yr D rb va vc b q V → Fr (fun k => k = rb) w V → vM w.heap.size m v V → P (.returned v) V) := fun m q V v e hY hV hv => by rw [hP, ← hH0, e]; exact .inr ⟨m, q, v, rfl, rfl, hv, hY, hV⟩
  have HTT : Hid (TabT w ∧ rb ≠ 0) := ⟨hT, hrt⟩
  have n0 : Nw w (w.alloc (.cells zrow 25)) := (Fr.refl _ _).alloc _
  have Q0 : Hid (Qs D rb w.heap.size va vc b w p (w.alloc (.cells zrow 25))) := ⟨h.nw n0, n0.any, new_heap _ _, Nat.le_refl _, hl⟩
  have E0 : Hid (H0 = (mustH (fun x => decide (x.toNat = 31)) 130 b p).bind fun _ p => (mustH (fun x => decide (x.toNat = 139)) 130 b p).bind fun _ p => (mustH (fun x => decide (x.toNat = 8)) 80 b p).bind fun _ p => (mustH (fun x => decide (x.toNat < 32)) 81 b p).bind fun f p => h1 f b p) := by show _ = _; rw [hH0]; rfl
  clear hP h n0 hT hrt hH0
  have HD : Hid (D ≤ w.heap.size ∧ rb < w.heap.size) := ⟨hDw, hl⟩
  clear hDw hl
  go_enter Tryz.func54, Tryz.ntmps54
  go_upto_region 1 with fail
  change Code.wp _ _ _ _ (w.alloc (.cells zrow 25))
  obtain ⟨rs, hrs⟩ : ∃ rs, rs = w.heap.size := ⟨_, rfl⟩
  have HRS : Hid (rs = w.heap.size) := hrs
  rw [← hrs] at Q0 ⊢
  generalize w.alloc (.cells zrow 25) = V0 at *
  clear hrs
  have HB1 : Hid (Calls Tryz.prog 80 #[.int .u8 31] V0 fun e V1 => ∃ bb, e = .returned (.func (.func 126) #[] #[.pointer (some ⟨bb, 0, none⟩)]) ∧ Hid (Calls Tryz.prog 79 #[.pointer (some ⟨rb, 0, none⟩), .func (.func 126) #[] #[.pointer (some ⟨bb, 0, none⟩)], .int .i64 130] V1 fun e V2 => (∃ y, mustH (fun x => decide (x.toNat = 31)) 130 b p = .bad y ∧ e = gv y ∧ Hid (Fr (fun k => k = rb) w V2)) ∨ (∃ X : Nat, e = .returned (.int .u8 X) ∧ Hid (∃ x, mustH (fun x => decide (x.toNat = 31)) 130 b p = .ok x (p + 1) ∧ X = x.toNat ∧ Qs D rb rs va vc b w (p + 1) V2 ∧ p < b.length)))) := Q0.out.be 31 130 (by decide)
  clear Q0
  go_wp2_with (first | (go_at_call 80; with_reducible refine HB1.out.mono ?_; rintro e U1 ⟨bb1, rfl, HM1⟩))
  go_at_call 79
  with_reducible refine HM1.out.mono ?_
  rintro e V1 (⟨y, hy, rfl, f1⟩ | ⟨X1, rfl, HX1⟩)
  · exact ⟨rfl, HBAD.out y V1 (by rw [E0.out, hy]; rfl) f1⟩
  obtain ⟨p1, hp1⟩ : ∃ q, q = p + 1 := ⟨_, rfl⟩
  have Q1 : Hid (Qs D rb rs va vc b w p1 V1) := by obtain ⟨x, _, _, hq, _⟩ := HX1.out; rw [hp1]; exact hq
  have E1 : Hid (H0 = (fun q => (mustH (fun x => decide (x.toNat = 139)) 130 b q).bind fun _ p => (mustH (fun x => decide (x.toNat = 8)) 80 b p).bind fun _ p => (mustH (fun x => decide (x.toNat < 32)) 81 b p).bind fun f p => h1 f b p) p1) := by obtain ⟨x, hx, _, _, _⟩ := HX1.out; show _ = _; rw [E0.out, hx, hp1]; rfl
  have HPOS : Hid (0 < b.length) := by obtain ⟨x, _, _, _, hq⟩ := HX1.out; show 0 < b.length; omega
  clear HX1 HB1 HM1 E0 hp1
  skip
  have HB2 : Hid (Calls Tryz.prog 80 #[.int .u8 139] V1 fun e V1 => ∃ bb, e = .returned (.func (.func 126) #[] #[.pointer (some ⟨bb, 0, none⟩)]) ∧ Hid (Calls Tryz.prog 79 #[.pointer (some ⟨rb, 0, none⟩), .func (.func 126) #[] #[.pointer (some ⟨bb, 0, none⟩)], .int .i64 130] V1 fun e V2 => (∃ y, mustH (fun x => decide (x.toNat = 139)) 130 b p1 = .bad y ∧ e = gv y ∧ Hid (Fr (fun k => k = rb) w V2)) ∨ (∃ X : Nat, e = .returned (.int .u8 X) ∧ Hid (∃ x, mustH (fun x => decide (x.toNat = 139)) 130 b p1 = .ok x (p1 + 1) ∧ X = x.toNat ∧ Qs D rb rs va vc b w (p1 + 1) V2 ∧ p1 < b.length)))) := Q1.out.be 139 130 (by decide)
  clear Q1
  go_wp2_with (first | (go_at_call 80; with_reducible refine HB2.out.mono ?_; rintro e U2 ⟨bb2, rfl, HM2⟩))
  go_at_call 79
  with_reducible refine HM2.out.mono ?_
  rintro e V2 (⟨y, hy, rfl, f1⟩ | ⟨X2, rfl, HX2⟩)
  · exact ⟨rfl, HBAD.out y V2 (by rw [E1.out, hy]; rfl) f1⟩
  obtain ⟨p2, hp2⟩ : ∃ q, q = p1 + 1 := ⟨_, rfl⟩
  have Q2 : Hid (Qs D rb rs va vc b w p2 V2) := by obtain ⟨x, _, _, hq, _⟩ := HX2.out; rw [hp2]; exact hq
  have E2 : Hid (H0 = (fun q => (mustH (fun x => decide (x.toNat = 8)) 80 b q).bind fun _ p => (mustH (fun x => decide (x.toNat < 32)) 81 b p).bind fun f p => h1 f b p) p2) := by obtain ⟨x, hx, _, _, _⟩ := HX2.out; show _ = _; rw [E1.out, hx, hp2]; rfl
  clear HX2 HB2 HM2 E1 hp2
  skip
  have HB3 : Hid (Calls Tryz.prog 80 #[.int .u8 8] V2 fun e V1 => ∃ bb, e = .returned (.func (.func 126) #[] #[.pointer (some ⟨bb, 0, none⟩)]) ∧ Hid (Calls Tryz.prog 79 #[.pointer (some ⟨rb, 0, none⟩), .func (.func 126) #[] #[.pointer (some ⟨bb, 0, none⟩)], .int .i64 80] V1 fun e V2 => (∃ y, mustH (fun x => decide (x.toNat = 8)) 80 b p2 = .bad y ∧ e = gv y ∧ Hid (Fr (fun k => k = rb) w V2)) ∨ (∃ X : Nat, e = .returned (.int .u8 X) ∧ Hid (∃ x, mustH (fun x => decide (x.toNat = 8)) 80 b p2 = .ok x (p2 + 1) ∧ X = x.toNat ∧ Qs D rb rs va vc b w (p2 + 1) V2 ∧ p2 < b.length)))) := Q2.out.be 8 80 (by decide)
  clear Q2
  go_wp2_with (first | (go_at_call 80; with_reducible refine HB3.out.mono ?_; rintro e U3 ⟨bb3, rfl, HM3⟩))
  go_at_call 79
  with_reducible refine HM3.out.mono ?_
  rintro e V3 (⟨y, hy, rfl, f1⟩ | ⟨X3, rfl, HX3⟩)
  · exact ⟨rfl, HBAD.out y V3 (by rw [E2.out, hy]; rfl) f1⟩
  obtain ⟨p3, hp3⟩ : ∃ q, q = p2 + 1 := ⟨_, rfl⟩
  have Q3 : Hid (Qs D rb rs va vc b w p3 V3) := by obtain ⟨x, _, _, hq, _⟩ := HX3.out; rw [hp3]; exact hq
  have E3 : Hid (H0 = (fun q => (mustH (fun x => decide (x.toNat < 32)) 81 b q).bind fun f p => h1 f b p) p3) := by obtain ⟨x, hx, _, _, _⟩ := HX3.out; show _ = _; rw [E2.out, hx, hp3]; rfl
  clear HX3 HB3 HM3 E2 hp3
  skip
  have HFL : Hid (Calls Tryz.prog 79 #[.pointer (some ⟨rb, 0, none⟩), .func (.func 81) #[] #[], .int .i64 81] V3 fun e V2 => (∃ y, mustH (fun x => decide (x.toNat < 32)) 81 b p3 = .bad y ∧ e = gv y ∧ Hid (Fr (fun k => k = rb) w V2)) ∨ (∃ x : By, e = .returned (.int .u8 x.toNat) ∧ Hid (mustH (fun x => decide (x.toNat < 32)) 81 b p3 = .ok x (p3 + 1) ∧ Qs D rb rs va vc b w (p3 + 1) V2))) := Q3.out.fl 81
  go_wp2_with fail
  go_at_call 79
  with_reducible refine HFL.out.mono ?_
  rintro e V4 (⟨y, hy, rfl, f1⟩ | ⟨f, rfl, HX4⟩)
  · exact ⟨rfl, HBAD.out y V4 (by rw [E3.out, hy]; rfl) f1⟩
  obtain ⟨p4, hp4⟩ : ∃ q, q = p3 + 1 := ⟨_, rfl⟩
  have Q4 : Hid (Qs D rb rs va vc b w p4 V4) := by rw [hp4]; exact HX4.out.2
  have E4 : Hid (H0 = h1 f b p4) := by show _ = _; rw [E3.out, hp4, HX4.out.1]; rfl
  clear HX4 HFL E3 hp4 Q3
  obtain ⟨B0, hB0⟩ : ∃ B, B = bitN f 0 := ⟨_, rfl⟩
  obtain ⟨B1, hB1⟩ : ∃ B, B = bitN f 1 := ⟨_, rfl⟩
  obtain ⟨B2, hB2⟩ : ∃ B, B = bitN f 2 := ⟨_, rfl⟩
  obtain ⟨B3, hB3⟩ : ∃ B, B = bitN f 3 := ⟨_, rfl⟩
  obtain ⟨B4, hB4⟩ : ∃ B, B = bitN f 4 := ⟨_, rfl⟩
  have a0 : (bits .and .u8 (f.toNat : Int) 1 != 0) = B0 := by rw [hB0]; exact and_bitN f 0 (by decide)
  have a1 : (bits .and .u8 (f.toNat : Int) 2 != 0) = B1 := by rw [hB1]; exact and_bitN f 1 (by decide)
  have a2 : (bits .and .u8 (f.toNat : Int) 4 != 0) = B2 := by rw [hB2]; exact and_bitN f 2 (by decide)
  have a3 : (bits .and .u8 (f.toNat : Int) 8 != 0) = B3 := by rw [hB3]; exact and_bitN f 3 (by decide)
  have a4 : (bits .and .u8 (f.toNat : Int) 16 != 0) = B4 := by rw [hB4]; exact and_bitN f 4 (by decide)
  have HBS : Hid (B0 = bitN f 0 ∧ B1 = bitN f 1 ∧ B2 = bitN f 2 ∧ B3 = bitN f 3 ∧ B4 = bitN f 4) := ⟨hB0, hB1, hB2, hB3, hB4⟩
  clear hB0 hB1 hB2 hB3 hB4
  go_upto_region 6 with fail
  have nA : Nw V4 (V4.alloc (.cells #[.string ⟨#[]⟩, .string ⟨#[]⟩, .slice none 0 0, .int .u32 0, .int .u8 0, .int .u8 0, .bool B0, .bool B1] 25)) := (Fr.refl _ _).alloc _
  have M0 : Hid (Qm D rb rs V4.heap.size va vc b w p4 #[.string ⟨#[]⟩, .string ⟨#[]⟩, .slice none 0 0, .int .u32 0, .int .u8 0, .int .u8 0, .bool B0, .bool B1] (V4.alloc (.cells #[.string ⟨#[]⟩, .string ⟨#[]⟩, .slice none 0 0, .int .u32 0, .int .u8 0, .int .u8 0, .bool B0, .bool B1] 25))) := by
    have hrl := (Array.getElem?_eq_some_iff.1 Q4.out.r).1
    exact ⟨Q4.out.nw nA, new_heap _ _, hrl, HPOS.out⟩
  clear nA Q4
  generalize V4.alloc (.cells #[.string ⟨#[]⟩, .string ⟨#[]⟩, .slice none 0 0, .int .u32 0, .int .u8 0, .int .u8 0, .bool B0, .bool B1] 25) = W4 at *
  generalize V4.heap.size = mb at *
  have HNM : Hid (Calls Tryz.prog 82 #[.pointer (some ⟨rb, 0, none⟩), .int .i64 4] W4 fun e V2 => (takeH 4 b p4 = .bad 4 ∧ e = gv 4 ∧ Hid (Fr (fun k => k = rb) w V2)) ∨ (e = .returned (.int .u64 (le ((b.drop p4).take 4))) ∧ Hid (takeH 4 b p4 = .ok ((b.drop p4).take 4) (p4 + 4) ∧ Qm D rb rs mb va vc b w (p4 + 4) #[.string ⟨#[]⟩, .string ⟨#[]⟩, .slice none 0 0, .int .u32 0, .int .u8 0, .int .u8 0, .bool B0, .bool B1] V2))) := M0.out.num 4 (by decide) (by decide)
  clear M0
  go_wp2_with fail
  go_at_call 82
  with_reducible refine HNM.out.mono ?_
  rintro e V5 (⟨hy, rfl, f1⟩ | ⟨rfl, HX5⟩)
  · exact ⟨rfl, HBAD.out 4 V5 (by rw [E4.out, h1, hy]; rfl) f1⟩
  obtain ⟨tl, htl⟩ : ∃ tl, tl = (b.drop p4).take 4 := ⟨_, rfl⟩
  have hz32 : le tl < 4294967296 := by rw [htl]; exact le_take_lt _ 4
  obtain ⟨p5, hp5⟩ : ∃ q, q = p4 + 4 := ⟨_, rfl⟩
  rw [← htl, ← hp5] at HX5
  rw [← htl]
  have E5 : Hid (H0 = (mustH (fun _ => true) 0 b p5).bind fun x p => (mustH (fun _ => true) 0 b p).bind fun y p => h2 f tl x y b p) := by show _ = _; rw [E4.out, h1, HX5.out.1]; rfl
  have HTL : Hid (tl = tl) := rfl
  have M5 := toHid2 HX5.out.2
  clear HX5 E4 htl hp5 HNM
  obtain ⟨z, hz⟩ : ∃ z, z = le tl := ⟨_, rfl⟩
  have HZ : Hid (z = le tl) := hz
  rw [← hz] at hz32 ⊢
  clear hz
  have uz : IntKind.u32.wrap (z : Int) = (z : Int) := by rw [IntKind.wrap_u32]; omega
  have c3 := (row_cell M5.out.m 3 _ rfl).1
  have c3f := (row_cell M5.out.m 3 (.int .u32 0) rfl).2
  obtain ⟨W5, hW5⟩ : ∃ W5, V5.setCell ⟨mb, 3, none⟩ (.int .u32 (z : Nat)) = W5 := ⟨_, rfl⟩
  have M5' : Hid (Qm D rb rs mb va vc b w p5 #[.string ⟨#[]⟩, .string ⟨#[]⟩, .slice none 0 0, .int .u32 (z : Nat), .int .u8 0, .int .u8 0, .bool B0, .bool B1] W5) := by rw [← hW5]; exact M5.out.set 3 (.int .u32 (z : Nat))
  clear M5
  have HB5 := toHid2 M5'.out.byte
  clear M5'
  go_wp2_with fail
  go_at_call 83
  with_reducible refine HB5.out.mono ?_
  rintro e V6 (⟨hy, rfl, f1⟩ | ⟨x, g6, o6, k6, rfl, d6, HX6⟩)
  · exact ⟨rfl, HBAD.out 4 V6 (by rw [E5.out, hy]; rfl) f1⟩
  obtain ⟨p6, hp6⟩ : ∃ q, q = p5 + 1 := ⟨_, rfl⟩
  rw [← hp6] at HX6
  have E6 : Hid (H0 = (mustH (fun _ => true) 0 b p6).bind fun y p => h2 f tl x y b p) := by show _ = _; rw [E5.out, HX6.out.1]; rfl
  have M6 := toHid2 HX6.out.2
  clear HX6 E5 hp6 HB5
  obtain ⟨X, hX⟩ : ∃ X, X = x.toNat := ⟨_, rfl⟩
  have HXX : Hid (X = x.toNat) := hX
  rw [← hX] at d6
  clear hX
  have c4 := (row_cell M6.out.m 4 _ rfl).1
  have c4f := (row_cell M6.out.m 4 (.int .u8 0) rfl).2
  obtain ⟨W6, hW6⟩ : ∃ W6, V6.setCell ⟨mb, 4, none⟩ (.int .u8 (X : Nat)) = W6 := ⟨_, rfl⟩
  have M6' : Hid (Qm D rb rs mb va vc b w p6 #[.string ⟨#[]⟩, .string ⟨#[]⟩, .slice none 0 0, .int .u32 (z : Nat), .int .u8 (X : Nat), .int .u8 0, .bool B0, .bool B1] W6) := by rw [← hW6]; exact M6.out.set 4 (.int .u8 (X : Nat))
  clear M6
  have HB6 := toHid2 M6'.out.byte
  clear M6'
  go_wp2_with fail
  go_at_call 83
  with_reducible refine HB6.out.mono ?_
  rintro e V7 (⟨hy, rfl, f1⟩ | ⟨y, g7, o7, k7, rfl, d7, HX7⟩)
  · exact ⟨rfl, HBAD.out 4 V7 (by rw [E6.out, hy]; rfl) f1⟩
  obtain ⟨p7, hp7⟩ : ∃ q, q = p6 + 1 := ⟨_, rfl⟩
  rw [← hp7] at HX7
  have E7 : Hid (H0 = h2 f tl x y b p7) := by show _ = _; rw [E6.out, HX7.out.1]; rfl
  have M7 := toHid2 HX7.out.2
  clear HX7 E6 hp7 HB6
  obtain ⟨Y, hY⟩ : ∃ Y, Y = y.toNat := ⟨_, rfl⟩
  have HYY : Hid (Y = y.toNat) := hY
  rw [← hY] at d7
  clear hY
  have c5 := (row_cell M7.out.m 5 _ rfl).1
  have c5f := (row_cell M7.out.m 5 (.int .u8 0) rfl).2
  obtain ⟨W7, hW7⟩ : ∃ W7, V7.setCell ⟨mb, 5, none⟩ (.int .u8 (Y : Nat)) = W7 := ⟨_, rfl⟩
  have M7' : Hid (Qm D rb rs mb va vc b w p7 #[.string ⟨#[]⟩, .string ⟨#[]⟩, .slice none 0 0, .int .u32 (z : Nat), .int .u8 (X : Nat), .int .u8 (Y : Nat), .bool B0, .bool B1] W7) := by rw [← hW7]; exact M7.out.set 5 (.int .u8 (Y : Nat))
  clear M7
  go_upto_if 39 with fail
  clear hW5 hW6 hW7 c3 c3f c4 c4f c5 c5f d6 d7
  go_cut [39] from 39 to 46 (fun v wx => ∃ (ex : List By) (ea : Option Addr) (en ec p8 : Nat), Hid (Qm D rb rs mb va vc b w p8 #[.string ⟨#[]⟩, .string ⟨#[]⟩, .slice ea en ec, .int .u32 (z : Nat), .int .u8 X, .int .u8 Y, .bool B0, .bool B1] wx ∧ en = ex.length ∧ Mine (fun k => k < w.heap.size ∨ k = rb ∨ k = mb ∨ k = rs) (.slice ea en ec) ex wx ∧ H0 = h3 f tl x y ex b p8))
  case first =>
    cases hc2 : B2
    · have HG : Hid (∃ (ex : List By) (ea : Option Addr) (en ec p8 : Nat), Hid (Qm D rb rs mb va vc b w p8 #[.string ⟨#[]⟩, .string ⟨#[]⟩, .slice ea en ec, .int .u32 (z : Nat), .int .u8 X, .int .u8 Y, .bool B0, .bool B1] W7 ∧ en = ex.length ∧ Mine (fun k => k < w.heap.size ∨ k = rb ∨ k = mb ∨ k = rs) (.slice ea en ec) ex W7 ∧ H0 = h3 f tl x y ex b p8)) := ⟨[], none, 0, 0, p7, M7'.out, rfl, .inl ⟨rfl, rfl⟩, by rw [E7.out, h2, exH, ← HBS.out.2.2.1, hc2]; rfl⟩
      subst hc2
      clear M7' E7 HBAD HOK HTT HD HPOS HBS
      go_wp2_with fail
      go_meet
      exact HG.out
    · have E8 : Hid (H0 = ((takeH 2 b p7).bind fun n p => takeH (le n) b p).bind fun ex p => h3 f tl x y ex b p) := by show _ = _; rw [E7.out, h2, exH, ← HBS.out.2.2.1, hc2]; rfl
      subst hc2
      have HN2 := toHid2 (M7'.out.num 2 (by decide) (by decide))
      clear M7' E7
      go_wp2_with fail
      go_at_call 82
      refine HN2.out.mono ?_
      rintro e V8 (⟨hy, rfl, f1⟩ | ⟨rfl, HX8⟩)
      · exact ⟨rfl, HBAD.out 4 V8 (by rw [E8.out, hy]; rfl) f1⟩
      obtain ⟨nl, hnl⟩ : ∃ nl, nl = (b.drop p7).take 2 := ⟨_, rfl⟩
      have hn16 : le nl < 65536 := by rw [hnl]; exact le_take_lt _ 2
      obtain ⟨p8, hp8⟩ : ∃ q, q = p7 + 2 := ⟨_, rfl⟩
      rw [← hnl, ← hp8] at HX8
      rw [← hnl]
      have E9 : Hid (H0 = (takeH (le nl) b p8).bind fun ex p => h3 f tl x y ex b p) := by show _ = _; rw [E8.out, HX8.out.1]; rfl
      have M8 := toHid2 HX8.out.2
      clear HX8 E8 hp8 HN2 hnl
      generalize le nl = N at *
      have uN : IntKind.i64.wrap (N : Int) = (N : Int) := by rw [IntKind.wrap_i64]; omega
      have HT8 := toHid2 (M8.out.take N (by omega))
      clear M8
      go_wp2_with fail
      go_at_call 83
      with_reducible refine HT8.out.mono ?_
      rintro e V9 (⟨hy, rfl, f1⟩ | ⟨a9, k9, rfl, HX9⟩)
      · exact ⟨rfl, HBAD.out 4 V9 (by rw [E9.out, hy]; rfl) f1⟩
      obtain ⟨ex, hex⟩ : ∃ ex, ex = (b.drop p8).take N := ⟨_, rfl⟩
      rw [← hex] at HX9
      have HCL : Hid (Calls Tryz.prog 52 #[.slice a9 N k9] V9 fun e V10 => ∃ ra rl rc, e = .returned (.slice ra rl rc) ∧ V10.cell? ⟨mb, 2, none⟩ = some (.slice none 0 0) ∧ V10.frozen? ⟨mb, 2, none⟩ = false ∧ Hid (∃ (ex : List By) (ea : Option Addr) (en ec p8 : Nat), Hid (Qm D rb rs mb va vc b w p8 #[.string ⟨#[]⟩, .string ⟨#[]⟩, .slice ea en ec, .int .u32 (z : Nat), .int .u8 X, .int .u8 Y, .bool B0, .bool B1] (V10.setCell ⟨mb, 2, none⟩ (.slice ra rl rc)) ∧ en = ex.length ∧ Mine (fun k => k < w.heap.size ∨ k = rb ∨ k = mb ∨ k = rs) (.slice ea en ec) ex (V10.setCell ⟨mb, 2, none⟩ (.slice ra rl rc)) ∧ H0 = h3 f tl x y ex b p8))) := by
        obtain ⟨q1, q2, q3, q4⟩ := HX9.out
        show Calls _ _ _ _ _
        have hq2 : Sl (fun _ => False) (.slice a9 N k9) ex V9 := q2.mono (fun _ h => h.elim)
        refine (clone_any V9 _ ex hq2 (by omega)).mono ?_
        rintro e V10 ⟨r, rfl, hM, hN⟩
        obtain ⟨ra, rc, hrr, _, _⟩ := hM.sl.form
        subst hrr
        have M10 := q4.nw hN
        refine ⟨ra, _, rc, rfl, (row_cell M10.m 2 _ rfl).1, (row_cell M10.m 2 (.slice none 0 0) rfl).2, ex, ra, ex.length, rc, p8 + N, M10.set 2 _, rfl, ?_, by rw [E9.out, q1]; rfl⟩
        have fm : Fr (fun k => k = mb) V10 (V10.setCell ⟨mb, 2, none⟩ (.slice ra ex.length rc)) := (Fr.refl _ _).setCell _ _ (.inl rfl)
        have b1 := (Array.getElem?_eq_some_iff.1 q4.m).1
        have b2 := q4.ne
        have b3 := q4.s.lt
        have b4 := q4.s.ge
        have b5 := HD.out.1
        have b6 := hN.size
        have hM2 : Mine (fun k => k < w.heap.size ∨ k = rb ∨ k = mb ∨ k = rs) (.slice ra ex.length rc) ex V10 := hM.more (fun k hk => .inl (by rcases hk with hk | hk | hk | hk <;> omega))
        exact hM2.kept fm (fun k hk => .inl (.inr (.inr (.inl hk))))
      clear HX9 HT8 HBAD HOK E9 hex HBS
      go_wp2_with (first | (go_at_call 52; with_reducible refine HCL.out.mono ?_; rintro e V10 ⟨ra, rl, rc, rfl, x2, x2f, HG⟩))
      go_meet
      exact HG.out
  case rest =>
  obtain ⟨ex, ea, en, ec, p8, HQ8⟩ := hcut
  clear M7' E7
  have HEN : Hid (en = ex.length) := HQ8.out.2.1
  have HQp8 : Hid (Qm D rb rs mb va vc b w p8 #[.string ⟨#[]⟩, .string ⟨#[]⟩, .slice ea en ec, .int .u32 (z : Nat), .int .u8 X, .int .u8 Y, .bool B0, .bool B1] wc ∧ Mine (fun k => k < w.heap.size ∨ k = rb ∨ k = mb ∨ k = rs) (.slice ea en ec) ex wc ∧ H0 = h3 f tl x y ex b p8) := ⟨HQ8.out.1, HQ8.out.2.2.1, HQ8.out.2.2.2⟩
  clear HQ8
  go_upto_if 49 with fail
  go_cut [49] from 49 to 52 (fun v wx => ∃ (nm : List By) (p9 : Nat), Hid (Qm D rb rs mb va vc b w p9 #[.string (str nm), .string ⟨#[]⟩, .slice ea en ec, .int .u32 (z : Nat), .int .u8 X, .int .u8 Y, .bool B0, .bool B1] wx ∧ Mine (fun k => k < w.heap.size ∨ k = rb ∨ k = mb ∨ k = rs) (.slice ea en ec) ex wx ∧ H0 = h4 f tl x y ex nm b p9))
  case first =>
    obtain ⟨mq, mi, eq⟩ := HQp8.out
    cases hc : B3
    · have HG : Hid (∃ (nm : List By) (p9 : Nat), Hid (Qm D rb rs mb va vc b w p9 #[.string (str nm), .string ⟨#[]⟩, .slice ea en ec, .int .u32 (z : Nat), .int .u8 X, .int .u8 Y, .bool B0, .bool B1] wc ∧ Mine (fun k => k < w.heap.size ∨ k = rb ∨ k = mb ∨ k = rs) (.slice ea en ec) ex wc ∧ H0 = h4 f tl x y ex nm b p9)) := ⟨[], p8, mq, mi, by rw [eq, h3, txH, ← HBS.out.2.2.2.1, hc]; rfl⟩
      subst hc
      clear mq mi eq HQp8 HBAD HOK HTT HD HPOS HBS
      go_wp2_with fail
      go_meet
      exact HG.out
    · have ET : Hid (H0 = (textH b p8).bind fun nm p => h4 f tl x y ex nm b p) := by show _ = _; rw [eq, h3, txH, ← HBS.out.2.2.2.1, hc]; rfl
      subst hc
      have HTX := toHid2 mq.text
      have HMI : Hid (Mine (fun k => k < w.heap.size ∨ k = rb ∨ k = mb ∨ k = rs) (.slice ea en ec) ex wc ∧ Nw wc wc) := ⟨mi, Fr.refl _ _⟩
      have HTX2 : Hid (Calls Tryz.prog 84 #[.pointer (some ⟨rb, 0, none⟩)] wc fun e V2 => (∃ y, textH b p8 = .bad y ∧ e = gv y ∧ Hid (Fr (fun k => k = rb) w V2)) ∨ (∃ sv, e = .returned (.string sv) ∧ V2.cell? ⟨mb, 0, none⟩ = some (.string ⟨#[]⟩) ∧ V2.frozen? ⟨mb, 0, none⟩ = false ∧ Hid (∃ (nm : List By) (p9 : Nat), Hid (Qm D rb rs mb va vc b w p9 #[.string (str nm), .string ⟨#[]⟩, .slice ea en ec, .int .u32 (z : Nat), .int .u8 X, .int .u8 Y, .bool B0, .bool B1] (V2.setCell ⟨mb, 0, none⟩ (.string sv)) ∧ Mine (fun k => k < w.heap.size ∨ k = rb ∨ k = mb ∨ k = rs) (.slice ea en ec) ex (V2.setCell ⟨mb, 0, none⟩ (.string sv)) ∧ H0 = h4 f tl x y ex nm b p9)))) := by
        show Calls _ _ _ _ _
        refine (ytext_any mq.s.y mq.pos).mono ?_
        rintro e V2 (⟨y, hy, rfl, f1⟩ | ⟨s, p1, v, hy, rfl, hv, hY1, f1⟩)
        · exact .inl ⟨y, hy, rfl, mq.s.f.trans f1⟩
        · have hv2 : v = .string (str s) := hv
          subst hv2
          have M2 := mq.next hY1 f1
          have fm : Fr (fun k => k = mb) V2 (V2.setCell ⟨mb, 0, none⟩ (.string (str s))) := (Fr.refl _ _).setCell _ _ (.inl rfl)
          exact .inr ⟨str s, rfl, (row_cell M2.m 0 _ rfl).1, (row_cell M2.m 0 (.string ⟨#[]⟩) rfl).2, s, p1, M2.set 0 _, (mi.kept f1 (fun k hk => .inl (.inr (.inl hk)))).kept fm (fun k hk => .inl (.inr (.inr (.inl hk)))), by rw [ET.out, hy]; rfl⟩
      clear mq mi eq HTX HMI HQp8
      go_wp2_with fail
      go_at_call 84
      with_reducible refine HTX2.out.mono ?_
      rintro e V9 (⟨y, hy, rfl, f1⟩ | ⟨sv, rfl, x2, x2f, HG⟩)
      · exact ⟨rfl, HBAD.out y V9 (by rw [ET.out, hy]; rfl) f1⟩
      clear HBAD HOK ET HTX2 HBS HTT HD HPOS
      go_wp2_with fail
      go_meet
      exact HG.out
  case rest =>
  obtain ⟨nm, p9, HQp9⟩ := hcut
  clear HQp8
  go_upto_if 55 with fail
  go_cut [55] from 55 to 58 (fun v wx => ∃ (cm : List By) (p10 : Nat), Hid (Qm D rb rs mb va vc b w p10 #[.string (str nm), .string (str cm), .slice ea en ec, .int .u32 (z : Nat), .int .u8 X, .int .u8 Y, .bool B0, .bool B1] wx ∧ Mine (fun k => k < w.heap.size ∨ k = rb ∨ k = mb ∨ k = rs) (.slice ea en ec) ex wx ∧ H0 = h5 f tl x y ex nm cm b p10))
  case first =>
    obtain ⟨mq, mi, eq⟩ := HQp9.out
    cases hc : B4
    · have HG : Hid (∃ (cm : List By) (p10 : Nat), Hid (Qm D rb rs mb va vc b w p10 #[.string (str nm), .string (str cm), .slice ea en ec, .int .u32 (z : Nat), .int .u8 X, .int .u8 Y, .bool B0, .bool B1] wc ∧ Mine (fun k => k < w.heap.size ∨ k = rb ∨ k = mb ∨ k = rs) (.slice ea en ec) ex wc ∧ H0 = h5 f tl x y ex nm cm b p10)) := ⟨[], p9, mq, mi, by rw [eq, h4, txH, ← HBS.out.2.2.2.2, hc]; rfl⟩
      subst hc
      clear mq mi eq HQp9 HBAD HOK HTT HD HPOS HBS
      go_wp2_with fail
      go_meet
      exact HG.out
    · have ET : Hid (H0 = (textH b p9).bind fun cm p => h5 f tl x y ex nm cm b p) := by show _ = _; rw [eq, h4, txH, ← HBS.out.2.2.2.2, hc]; rfl
      subst hc
      have HTX := toHid2 mq.text
      have HMI : Hid (Mine (fun k => k < w.heap.size ∨ k = rb ∨ k = mb ∨ k = rs) (.slice ea en ec) ex wc ∧ Nw wc wc) := ⟨mi, Fr.refl _ _⟩
      have HTX2 : Hid (Calls Tryz.prog 84 #[.pointer (some ⟨rb, 0, none⟩)] wc fun e V2 => (∃ y, textH b p9 = .bad y ∧ e = gv y ∧ Hid (Fr (fun k => k = rb) w V2)) ∨ (∃ sv, e = .returned (.string sv) ∧ V2.cell? ⟨mb, 1, none⟩ = some (.string ⟨#[]⟩) ∧ V2.frozen? ⟨mb, 1, none⟩ = false ∧ Hid (∃ (cm : List By) (p10 : Nat), Hid (Qm D rb rs mb va vc b w p10 #[.string (str nm), .string (str cm), .slice ea en ec, .int .u32 (z : Nat), .int .u8 X, .int .u8 Y, .bool B0, .bool B1] (V2.setCell ⟨mb, 1, none⟩ (.string sv)) ∧ Mine (fun k => k < w.heap.size ∨ k = rb ∨ k = mb ∨ k = rs) (.slice ea en ec) ex (V2.setCell ⟨mb, 1, none⟩ (.string sv)) ∧ H0 = h5 f tl x y ex nm cm b p10)))) := by
        show Calls _ _ _ _ _
        refine (ytext_any mq.s.y mq.pos).mono ?_
        rintro e V2 (⟨y, hy, rfl, f1⟩ | ⟨s, p1, v, hy, rfl, hv, hY1, f1⟩)
        · exact .inl ⟨y, hy, rfl, mq.s.f.trans f1⟩
        · have hv2 : v = .string (str s) := hv
          subst hv2
          have M2 := mq.next hY1 f1
          have fm : Fr (fun k => k = mb) V2 (V2.setCell ⟨mb, 1, none⟩ (.string (str s))) := (Fr.refl _ _).setCell _ _ (.inl rfl)
          exact .inr ⟨str s, rfl, (row_cell M2.m 1 _ rfl).1, (row_cell M2.m 1 (.string ⟨#[]⟩) rfl).2, s, p1, M2.set 1 _, (mi.kept f1 (fun k hk => .inl (.inr (.inl hk)))).kept fm (fun k hk => .inl (.inr (.inr (.inl hk)))), by rw [ET.out, hy]; rfl⟩
      clear mq mi eq HTX HMI HQp9
      go_wp2_with fail
      go_at_call 84
      with_reducible refine HTX2.out.mono ?_
      rintro e V9 (⟨y, hy, rfl, f1⟩ | ⟨sv, rfl, x2, x2f, HG⟩)
      · exact ⟨rfl, HBAD.out y V9 (by rw [ET.out, hy]; rfl) f1⟩
      clear HBAD HOK ET HTX2 HBS HTT HD HPOS
      go_wp2_with fail
      go_meet
      exact HG.out
  case rest =>
  obtain ⟨cm, p10, HQp10⟩ := hcut
  clear HQp9
  have c7 := (row_cell HQp10.out.1.m 7 _ rfl).1
  go_upto_if 60 with fail
  go_cut [60] from 60 to 62 (fun v wx => ∃ (p11 : Nat), Hid (Qm D rb rs mb va vc b w p11 #[.string (str nm), .string (str cm), .slice ea en ec, .int .u32 (z : Nat), .int .u8 X, .int .u8 Y, .bool B0, .bool B1] wx ∧ Mine (fun k => k < w.heap.size ∨ k = rb ∨ k = mb ∨ k = rs) (.slice ea en ec) ex wx ∧ H0 = .ok ⟨nm, cm, ex, le tl, x, y, bitN f 0, bitN f 1⟩ p11))
  case first =>
    obtain ⟨mq, mi, eq⟩ := HQp10.out
    cases hc : B1
    · have HG : Hid (∃ (p11 : Nat), Hid (Qm D rb rs mb va vc b w p11 #[.string (str nm), .string (str cm), .slice ea en ec, .int .u32 (z : Nat), .int .u8 X, .int .u8 Y, .bool B0, .bool B1] wc ∧ Mine (fun k => k < w.heap.size ∨ k = rb ∨ k = mb ∨ k = rs) (.slice ea en ec) ex wc ∧ H0 = .ok ⟨nm, cm, ex, le tl, x, y, bitN f 0, bitN f 1⟩ p11)) := ⟨p10, mq, mi, by rw [eq, h5, smH, ← HBS.out.2.1, hc]; rfl⟩
      subst hc
      clear mq mi eq HQp10 HBAD HOK HTT HD HPOS HBS
      go_wp2_with fail
      go_meet
      exact HG.out
    · have ET : Hid (H0 = (sumH b p10).bind fun _ p => .ok ⟨nm, cm, ex, le tl, x, y, bitN f 0, bitN f 1⟩ p) := by show _ = _; rw [eq, h5, smH, ← HBS.out.2.1, hc]; rfl
      have HTX2 : Hid (Calls Tryz.prog 85 #[.pointer (some ⟨rb, 0, none⟩)] wc fun e V2 => (∃ y, sumH b p10 = .bad y ∧ e = gv y ∧ Hid (Fr (fun k => k = rb) w V2)) ∨ (∃ v, e = .returned v ∧ Hid (∃ (p11 : Nat), Hid (Qm D rb rs mb va vc b w p11 #[.string (str nm), .string (str cm), .slice ea en ec, .int .u32 (z : Nat), .int .u8 X, .int .u8 Y, .bool B0, .bool B1] V2 ∧ Mine (fun k => k < w.heap.size ∨ k = rb ∨ k = mb ∨ k = rs) (.slice ea en ec) ex V2 ∧ H0 = .ok ⟨nm, cm, ex, le tl, x, y, bitN f 0, bitN f 1⟩ p11)))) := by
        show Calls _ _ _ _ _
        refine (ysum_any mq.s.y mq.pos (HTT.out.1.kept mq.s.f (fun e => HTT.out.2 e.symm)) HTT.out.2).mono ?_
        rintro e V2 (⟨y, hy, rfl, f1⟩ | ⟨s, p1, v, hy, rfl, hv, hY1, f1⟩)
        · exact .inl ⟨y, hy, rfl, mq.s.f.trans f1⟩
        · exact .inr ⟨v, rfl, p1, mq.next hY1 f1, mi.kept f1 (fun k hk => .inl (.inr (.inl hk))), by rw [ET.out, hy]; rfl⟩
      subst hc
      clear mq mi eq HQp10
      go_wp2_with fail
      go_at_call 85
      with_reducible refine HTX2.out.mono ?_
      rintro e V9 (⟨y, hy, rfl, f1⟩ | ⟨sv, rfl, HG⟩)
      · exact ⟨rfl, HBAD.out y V9 (by rw [ET.out, hy]; rfl) f1⟩
      clear HBAD HOK ET HTX2 HBS HTT HD HPOS
      go_wp2_with fail
      go_meet
      exact HG.out
  case rest =>
  obtain ⟨p11, HQ11⟩ := hcut
  clear HQp10 c7
  obtain ⟨mq, mi, eq⟩ := HQ11.out
  have r0 := (row_cell mq.m 0 _ rfl).1
  have r1 := (row_cell mq.m 1 _ rfl).1
  have r2 := (row_cell mq.m 2 _ rfl).1
  have r3 := (row_cell mq.m 3 _ rfl).1
  have r4 := (row_cell mq.m 4 _ rfl).1
  have r5 := (row_cell mq.m 5 _ rfl).1
  have r6 := (row_cell mq.m 6 _ rfl).1
  have r7 := (row_cell mq.m 7 _ rfl).1
  have hrs := mq.s.r
  have HEND : Hid (P (.returned (.agg #[.string (str nm), .string (str cm), .slice ea en ec, .int .u32 (z : Nat), .int .u8 X, .int .u8 Y, .bool B0, .bool B1])) (wc.setRow rs #[.string (str nm), .string (str cm), .slice ea en ec, .int .u32 (z : Nat), .int .u8 X, .int .u8 Y, .bool B0, .bool B1])) := by
    show P _ _
    have fr : Fr (fun k => k = rs) wc (wc.setRow rs #[.string (str nm), .string (str cm), .slice ea en ec, .int .u32 (z : Nat), .int .u8 X, .int .u8 Y, .bool B0, .bool B1]) := (Fr.refl _ _).setRow _ _ (.inl rfl)
    have b1 := mq.s.ge
    have b2 := mq.s.lt
    have b3 := mq.s.y.dr
    refine HOK.out _ p11 _ _ eq (mq.s.y.keep fr (by omega) (fun k hk => by omega)) (mq.s.f.then fr (fun i hi => .inr (by omega))) ⟨ea, en, ec, ?_, HEN.out, (mi.kept fr (fun k hk => .inl (.inr (.inr (.inr hk))))).more (fun k hk => .inl (.inl hk))⟩
    rw [HZ.out, HXX.out, HYY.out, HBS.out.1, HBS.out.2.1]
  have HROW : Hid ((wc.setRow rs #[.string (str nm), .string (str cm), .slice ea en ec, .int .u32 (z : Nat), .int .u8 X, .int .u8 Y, .bool B0, .bool B1]).heap[rs]? = some (.cells #[.string (str nm), .string (str cm), .slice ea en ec, .int .u32 (z : Nat), .int .u8 X, .int .u8 Y, .bool B0, .bool B1] 25)) := setRow_heap wc rs _ _ 25 _ hrs
  clear mq mi eq HQ11 HBAD HOK HTT HD HPOS HBS HEN HZ HXX HYY HTL
  go_upto_region 17 with fail
  go_wp2_with (first
    | (refine wpList_store_row rfl 25 _ _ rfl rs #[.string (str nm), .string (str cm), .slice ea en ec, .int .u32 (z : Nat), .int .u8 X, .int .u8 Y, .bool B0, .bool B1] (by simp [Act.eval]) (by simp [Act.eval]) 25 _ hrs (by kernel_rfl) rfl (by simp [Value.oneCell']) ?_))
  exact hdret rs (by first | rfl | simp [Act.put]) HROW.out rfl rfl HEND.out
end Go.Proofs.YtpjnbhflnbhnoaaGreatDoor


import Derived.Test.YtdeefemeiggolaaQp
import Derived.Test.YtdeefemeiggolaaQk
import Derived.Test.YtdeefemeiggolaaQa
namespace Go.Proofs.Ytdeefemeiggolaa
open Go.RowKit
set_option linter.unusedVariables false
variable {D rb g o c : Nat} {b : List By} {most p : Nat} {out : List By} {K : Nat → Prop} {w : World}
def sv (s : Shp) : Value := .agg #[.int .i64 s.block, .bool s.alone, .bool s.bsum, .bool s.csum, .bool s.csize]
/-- What the plain bytes from a place on are as a slice. -/
theorem RdI.from (h : RdI D rb g o c b most p out K w) (q : Nat) (hq : q ≤ out.length) : ∃ a k, w.cell? ⟨rb, 3, none⟩ = some (.slice a out.length k) ∧ ((a = none ∧ q = 0 ∧ k = 0 ∧ out = []) ∨ ∃ g2, a = some ⟨g2, 0, none⟩ ∧ q ≤ k ∧ out.length ≤ k ∧ k < 9223372036854775808 ∧ g2 < w.heap.size ∧ ¬ K g2 ∧ Old w (.slice (some ⟨g2, q, none⟩) (out.length - q) (k - q)) (out.drop q)) := by
  obtain ⟨vo, h1, h2⟩ := h.row
  rcases h2 with ⟨rfl, rfl⟩ | ⟨g2, hk, hO⟩
  · exact ⟨none, 0, (row_cell h1 3 _ rfl).1, .inl ⟨rfl, by simpa using hq, rfl, rfl⟩⟩
  · obtain ⟨xs, rfl, x2, x3, x4, x5⟩ := hO
    have hlt := x5.lt
    have hr := x5.rd.take out.length
    rw [x2] at hr
    refine ⟨_, _, (row_cell h1 3 _ rfl).1, .inr ⟨g2, rfl, by omega, x3, x4, hlt, hk, ?_⟩⟩
    refine .inr ⟨g2, by omega, q, xs.length - q, by simp, by simp; omega, by omega, ?_⟩
    have := hr.drop q
    rw [Nat.zero_add] at this; exact this
/-- What unpack does, its Decode answering r. -/
def Unp (D rb g o c : Nat) (b : List By) (most p : Nat) (out : List By) (K : Nat → Prop) (w : World) (q : Nat) (r : List By × Nat × Nat) (e : Ending) (w' : World) : Prop :=
  if r.2.2 = 0 then (∃ x, e = .returned x) ∧ RdI D rb g o c b most p (out ++ r.1) K w' ∧ Fr (fun k => k = rb ∨ ¬ K k) w w' else e = flt (q + r.2.1) r.2.2 ∧ Fr (fun k => k = rb ∨ ¬ K k) w w'
set_option maxHeartbeats 16000000 in
set_option maxRecDepth 100000 in
theorem runpack_any (h : RdI D rb g o c b most p out K w) (u : Value) (l : List By) (hu : Sl (fun k => w.heap.size ≤ k) u l w) (q : Nat) (s : Shp) (hs1 : 4 ≤ s.block) (hs2 : s.block ≤ 7) (began : Nat) (hb : began ≤ out.length) (hll : l.length ≤ 140737488351232) (hq : q ≤ 140737488351232) :
    Calls Try.prog 94 #[.pointer (some ⟨rb, 0, none⟩), u, .int .i64 q, sv s, .int .i64 began] w (Unp D rb g o c b most p out K w q (dec l (ahd s began out) ((min (siz s) (most - out.length) : Nat) : Int))) := by
  unfold sv
  obtain ⟨P, hP⟩ : ∃ P : Ending → World → Prop, P = (Unp D rb g o c b most p out K w q (dec l (ahd s began out) ((min (siz s) (most - out.length) : Nat) : Int))) := ⟨_, rfl⟩
  rw [← hP]
  obtain ⟨W1, hW1⟩ : ∃ W1, w.alloc (.cells #[.int .i64 s.block, .bool s.alone, .bool s.bsum, .bool s.csum, .bool s.csize] 24) = W1 := ⟨_, rfl⟩
  obtain ⟨sb, hsb⟩ : ∃ sb, w.heap.size = sb := ⟨_, rfl⟩
  have hN1 : Nw w W1 := by rw [← hW1]; exact (Fr.refl _ _).alloc _
  have hrow : W1.heap[sb]? = some (.cells #[.int .i64 s.block, .bool s.alone, .bool s.bsum, .bool s.csum, .bool s.csize] 24) := by
    rw [← hW1, ← hsb]
    show (w.heap.push _)[w.heap.size]? = _
    simp
  have hz1 : (most : Int) - (out.length : Int) = ((most - out.length : Nat) : Int) := by have := h.ol; omega
  have hml := h.ml
  have hol := h.ol
  obtain ⟨a, k, hv, hcase⟩ := (h.nw hN1).from began hb
  have HA : Hid (∀ va, Old W1 va (ahd s began out) → ∀ V m, m = ((min (siz s) (most - out.length) : Nat) : Int) → Nw W1 V → Calls Try.prog 96 #[u, va, .int .i64 m] V fun e w2 => ∃ a2 n2 k2 y z, e = .returned (.tuple #[.slice a2 n2 k2, .int .i64 y, .int .i64 z]) ∧ Nw W1 w2 ∧ (0 ≤ y ∧ y ≤ 140737488351232) ∧ ((¬ z = 0 ∧ Hid (∀ V2, Nw w2 V2 → Calls Try.prog 66 #[.int .i64 ((q : Int) + y), .int .i64 z] V2 fun e w3 => ∃ ch, e = .panicked ch ∧ Hid (P (.panicked ch) w3))) ∨ (z = 0 ∧ Hid (∀ V2, Nw w2 V2 → ∃ a4 n4 k4 v' W x, V2.cell? ⟨rb, 3, none⟩ = some (.slice a4 n4 k4) ∧ W.cell? ⟨rb, 3, none⟩ = some x ∧ W.frozen? ⟨rb, 3, none⟩ = false ∧ Hid (∀ ty, (Builtin.append_ #[22, 22] ty #[.slice a4 n4 k4, .slice a2 n2 k2]).run Try.prog V2 = .ok v' W) ∧ (∃ a2 l2 k2, v' = .slice a2 l2 k2) ∧ Hid (∀ r, P (.returned r) (W.setCell ⟨rb, 3, none⟩ v')))))) := by
    intro va hva V m hm hV
    subst hm
    have hbd := dec_bound l (ahd s began out) ((min (siz s) (most - out.length) : Nat) : Int)
    have hsh := dec_shape l (ahd s began out) ((min (siz s) (most - out.length) : Nat) : Int)
    have hal : (ahd s began out).length ≤ 140737488351232 := by
      unfold ahd
      split
      · simp
      · rw [List.length_drop]; omega
    refine (decode_any V u va l (ahd s began out) _ (Sl.later hu (hN1.trans hV)) (Sl.later hva hV) hll hal).mono ?_
    generalize dec l (ahd s began out) ((min (siz s) (most - out.length) : Nat) : Int) = r at *
    rintro e w2 ⟨a2, k2, rfl, hM, hN⟩
    refine ⟨a2, _, k2, _, _, rfl, hV.trans hN, ⟨by omega, by rcases hsh with hsh | hsh <;> omega⟩, ?_⟩
    by_cases hr : r.2.2 = 0
    · refine .inr ⟨by omega, ?_⟩
      intro V2 hV2
      have hh := h.nw (((hN1.trans hV).trans hN).trans hV2)
      have := hbd.2.2 hr
      obtain ⟨a4, k4, v', W, x, y1, y2, y3, y4, y5, y6⟩ := hh.more _ r.1 (((hM.old).nw hV2).mono (fun _ h => h.elim)) (by omega)
      refine ⟨a4, _, k4, v', W, x, y1, y2, y3, y4, y5, fun rr => ?_⟩
      rw [hP]
      unfold Unp
      rw [if_pos hr]
      exact ⟨⟨_, rfl⟩, y6.out.1, (((hN1.trans hV).trans hN).trans hV2).any.trans y6.out.2⟩
    · refine .inl ⟨by omega, ?_⟩
      intro V2 hV2
      have e1 : (q : Int) + (r.2.1 : Int) = ((q + r.2.1 : Nat) : Int) := by omega
      rw [e1]
      refine (fgiveUp_any (q + r.2.1) r.2.2 V2).mono ?_
      rintro e w3 ⟨rfl, rfl⟩
      refine ⟨_, rfl, ?_⟩
      show P _ _
      rw [hP]
      unfold Unp
      rw [if_neg hr]
      exact ⟨rfl, (((hN1.trans hV).trans hN).trans hV2).any⟩
  have hl2 : (2 : Nat) ^ (8 + 2 * s.block) ≤ 4194304 := Nat.le_trans (Nat.pow_le_pow_right (by decide) (show 8 + 2 * s.block ≤ 22 by omega)) (by decide)
  have HL : Hid (∀ V, Calls Try.prog 39 #[.int .i64 s.block] V fun e w' => e = .returned (.int .i64 (siz s)) ∧ w' = V) := fun V => flongest_any s.block hs1 hs2 V
  have hsz : siz s ≤ 4194304 := hl2
  have KEY : Hid (∀ w', Nw W1 w' → w'.cell? ⟨rb, 2, none⟩ = some (.int .i64 most) ∧ w'.cell? ⟨rb, 3, none⟩ = some (.slice a out.length k) ∧ w'.cell? ⟨sb, 0, none⟩ = some (.int .i64 s.block)) := fun w' hN => ⟨hN.cell (h.nw hN1).cells.2.2.1, hN.cell hv, hN.cell (row_cell hrow 0 _ rfl).1⟩
  have x1 := (row_cell hrow 0 _ rfl).1
  have x2 := (row_cell hrow 1 _ rfl).1
  obtain ⟨ua, uc, rfl, _, _⟩ := hu.form
  have hx2 := (h.nw hN1).cells.2.2.1
  have HW : Hid (∀ va, Old W1 va (out.drop began) → Old W1 (if s.alone = true then .slice none 0 0 else va) (ahd s began out)) := fun va hva => by
    unfold ahd
    split
    · exact .inl ⟨none, rfl, rfl⟩
    · exact hva
  have HC : Hid ((a = none ∧ began = 0 ∧ k = 0 ∧ out = []) ∨ ∃ g2, a = some ⟨g2, 0, none⟩ ∧ began ≤ k ∧ out.length ≤ k ∧ k < 9223372036854775808 ∧ g2 < W1.heap.size ∧ ¬ K g2 ∧ Old W1 (.slice (some ⟨g2, began, none⟩) (out.length - began) (k - began)) (out.drop began)) := hcase
  have HM : Hid ((min (siz s) (most - out.length) : Nat) ≤ siz s ∧ (min (siz s) (most - out.length) : Nat) ≤ most - out.length ∧ ((min (siz s) (most - out.length) : Nat) = siz s ∨ (min (siz s) (most - out.length) : Nat) = most - out.length)) := by show _ ∧ _; omega
  clear hcase h hP hrow hu
  have hz9 : ((most - out.length : Nat) : Int) ≤ 4194304 := by omega
  generalize (min (siz s) (most - out.length) : Nat) = M at *
  generalize siz s = Z at *
  have HOd : Hid (∀ va, Old W1 va (out.drop began) → Old W1 va (out.drop began)) := fun _ h => h
  generalize l.length = ln at *
  go_enter Try.func94, Try.ntmps94
  go_upto_region 1 with fail
  go_cut [3, 10] (fun x3 va wx => wx = W1 ∧ (∃ a n k, va = .slice a n k) ∧ Hid (Old W1 va (out.drop began)))
  case first =>
    rcases HC.out with ⟨rfl, rfl, rfl, hout⟩ | ⟨g2, rfl, hk1, hk2, hk3, hg2, hkg, hO⟩
    · have e0 : out.length = 0 := by rw [hout]; rfl
      have HO : Hid (Old W1 (.slice none 0 0) (out.drop 0)) := .inl ⟨none, rfl, by rw [hout]; rfl⟩
      clear HC HA HW HOd
      generalize out.drop 0 = od at *
      generalize out.length = ol at *
      subst e0
      go_wp2_with fail
      go_meet
      exact ⟨rfl, ⟨_, _, _, rfl⟩, HO.out⟩
    · by_cases hkb : k = began
      · have hob : out.length = began := by omega
        have HO : Hid (∀ a, Old W1 (.slice a 0 0) (out.drop began)) := fun a => .inl ⟨a, rfl, by rw [← hob]; simp⟩
        clear HC HA HW HOd hO
        generalize out.drop began = od at *
        generalize out.length = ol at *
        subst hob
        subst hkb
        go_wp2_with fail
        go_meet
        exact ⟨rfl, ⟨_, _, _, rfl⟩, HO.out _⟩
      · have HO : Hid (Old W1 (.slice (some ⟨g2, began, none⟩) (out.length - began) (k - began)) (out.drop began)) := hO
        clear HC HA HW HOd hO
        have hzd : ((out.length : Nat) : Int) - (began : Int) = ((out.length - began : Nat) : Int) := by omega
        generalize out.drop began = od at *
        generalize out.length = ol at *
        go_wp2_with fail
        go_meet
        exact ⟨rfl, ⟨_, _, _, rfl⟩, HO.out⟩
  case rest =>
    obtain ⟨rfl, ⟨a0, n0, k0, rfl⟩, HO⟩ := hcut
    have HO1 : Hid (Old wc (if s.alone = true then .slice none 0 0 else .slice a0 n0 k0) (ahd s began out)) := HW.out _ HO.out
    clear HC HO HW HOd
    generalize s.alone = q0 at *
    generalize ahd s began out = od at *
    go_upto_if 21 with fail
    go_cut [10] (fun va wx => wx = wc ∧ (∃ a n k, va = .slice a n k) ∧ Hid (Old wc va od))
    case first =>
      cases q0 with
      | true =>
        have HO2 : Hid (Old wc (.slice none 0 0) od) := HO1.out
        clear HA HO1
        go_wp2_with fail
        go_meet
        exact ⟨rfl, ⟨_, _, _, rfl⟩, HO2.out⟩
      | false =>
        have HO2 : Hid (Old wc (.slice a0 n0 k0) od) := HO1.out
        clear HA HO1
        go_wp2_with fail
        go_meet
        exact ⟨rfl, ⟨_, _, _, rfl⟩, HO2.out⟩
    case rest =>
      obtain ⟨hwc, ⟨a1, n1, k1, rfl⟩, HO⟩ := hcut
      subst hwc
      have HB : Hid _ := HA.out _ HO.out
      clear HA HO HO1
      generalize s.block = kb at *
      generalize s.bsum = q1 at *
      generalize s.csum = q2 at *
      generalize s.csize = q3 at *
      generalize most - out.length = dd at *
      generalize out.length = ol at *
      have HWD : Hid (IntKind.i64.wrap (dd : Int) = (dd : Int)) := by show _ = _; rw [IntKind.wrap_i64]; omega
      go_wp2_with fail
      go_region_held3 (fun w' => w'.cell? ⟨rb, 2, none⟩ = some (.int .i64 most) ∧ w'.cell? ⟨rb, 3, none⟩ = some (.slice a ol k) ∧ w'.cell? ⟨sb, 0, none⟩ = some (.int .i64 kb))
        (first | exact KEY.out _ (by assumption) | exact KEY.out _ (Fr.refl _ _).drew | exact KEY.out _ (Fr.refl _ _))
        (first
          | (go_at_call 39; with_reducible refine (HL.out _).mono ?_; rintro e w3 ⟨rfl, rfl⟩)
          | (go_at_call 96; with_reducible refine (HB.out _ _ ?_ ?_).mono ?_; (have HM' := HM.out; have HW' := HWD.out; (first | (rw [HW']; omega) | omega)); (first | assumption | exact (Fr.refl _ _).drew | exact Fr.refl _ _ | exact (Fr.refl _ _).drewN _); rintro e w2 ⟨a2, n2, k2, y, z, rfl, hN2, ⟨hy1, hy2⟩, HZ⟩))
      rcases HZ with ⟨hz, HG⟩ | ⟨hz, HG⟩
      · go_wp2_with (go_at_call 66; with_reducible refine (HG.out _ (Fr.refl _ _)).mono ?_; rintro e w3 ⟨ch, rfl, HF⟩)
        exact ⟨rfl, HF.out⟩
      · subst hz
        obtain ⟨a4, n4, k4, v', W, x, y0, y1, y2, HAP, ⟨a5, l5, k5, rfl⟩, HF⟩ := HG.out _ (Fr.refl _ _)
        obtain ⟨y8, y9, y10⟩ := KEY.out _ hN2
        have e4 := Option.some.inj (y0.symm.trans y9)
        injection e4 with e5 e6 e7
        subst e5; subst e6; subst e7
        clear y0 y8 y10
        go_wp2_with (first
          | (at_builtin; refine Lib.wpList_append_run _ rfl _ _ 22 22 rfl (.slice a4 n4 k4) (.slice a2 n2 k2) (by simp [Act.eval]) (by simp [Act.eval]) _ _ (HAP.out _) ?_))
        go_end0
        exact HF.out _
end Go.Proofs.Ytdeefemeiggolaa

import Derived.Test.YtdeefemeiggolaaRa
import Derived.Test.YtdeefemeiggolaaRc
import Derived.Test.YtdeefemeiggolaaQt
namespace Go.Proofs.Ytdeefemeiggolaa
open Go.RowKit
set_option linter.unusedVariables false
variable {D rb g o c : Nat} {b : List By} {most p : Nat} {out : List By} {K : Nat → Prop} {w : World}
/-! ### skipped -/
def skipR (b : List By) (p : Nat) : Rz Nat := if b.length < p + 4 then .bad b.length 4 else if b.length < p + 4 + le (tk b p 4) then .bad b.length 4 else .ok (p + 4 + le (tk b p 4))
/-- What skipped answers. -/
def ESk (D rb g o c : Nat) (b : List By) (most : Nat) (out : List By) (K : Nat → Prop) (w : World) (fb : Nat) (f : Fm) (r : Rz Nat) (e : Ending) (w' : World) : Prop :=
  Fr (fun k => k = rb ∨ k = fb) w w' ∧ match r with
    | .bad a y => e = .returned (.tuple #[.int .i64 a, .int .i64 y])
    | .ok q => e = .returned (.tuple #[.int .i64 0, .int .i64 0]) ∧ RfI D rb g o c b most q out K w' ∧ FB fb { f with skipped := true, till := q } w'
/-- A reader's cells. -/
def RK (rb g o c L p : Nat) (V : World) : Prop := V.cell? ⟨rb, 0, none⟩ = some (.slice (some ⟨g, o, none⟩) L c) ∧ V.cell? ⟨rb, 1, none⟩ = some (.int .i64 p) ∧ V.frozen? ⟨rb, 1, none⟩ = false
theorem RK.of (h : RfI D rb g o c b most p out K w) : RK rb g o c b.length p w := ⟨h.cells.1, h.cells.2.1, h.cells.2.2.2.1⟩
theorem has_call (h : RfI D rb g o c b most p out K w) (n : Nat) (hn : n < 18446744073709551616) (v : Bool) (hv : decide (p + n ≤ b.length) = v) : Calls Try.prog 34 #[.pointer (some ⟨rb, 0, none⟩), .int .u64 n] w fun e w1 => e = .returned (.bool v) ∧ RK rb g o c b.length p w1 ∧ Hid (Nw w w1) := by
  refine (ehas_any h n hn).mono ?_
  rintro e w1 ⟨rfl, h1⟩
  exact ⟨by rw [hv], RK.of (h.nw h1), h1⟩
set_option maxHeartbeats 8000000 in
set_option maxRecDepth 100000 in
theorem eskipped_any (h : RfI D rb g o c b most p out K w) (fb : Nat) (f : Fm) (hf : FB fb f w) (hfr : fb ≠ rb) (hKf : K fb) (hDf : D ≤ fb) : Calls Try.prog 37 #[.pointer (some ⟨rb, 0, none⟩), .pointer (some ⟨fb, 0, none⟩)] w (ESk D rb g o c b most out K w fb f (skipR b p)) := by
  obtain ⟨P, hP⟩ : ∃ P : Ending → World → Prop, P = ESk D rb g o c b most out K w fb f (skipR b p) := ⟨_, rfl⟩
  rw [← hP]
  have hbl := h.bl
  have hpl := h.pl
  have hcb := h.hc
  have hc2 := h.hc2
  have HBAD : Hid (∀ a y V, skipR b p = .bad a y → Nw w V → P (.returned (.tuple #[.int .i64 a, .int .i64 y])) V) := fun a y V h1 h2 => by
    rw [hP, h1]; exact ⟨h2.any, rfl⟩
  have HSH : Hid (∀ V, Nw w V → Calls Try.prog 50 #[.pointer (some ⟨rb, 0, none⟩)] V fun e w1 => e = .returned (.tuple #[.int .i64 b.length, .int .i64 4]) ∧ w1 = V) := fun V hV => eshort_any (h.nw hV)
  by_cases q1 : b.length < p + 4
  · have hh : skipR b p = .bad b.length 4 := by unfold skipR; rw [if_pos q1]
    have HH : Hid (Calls Try.prog 34 #[.pointer (some ⟨rb, 0, none⟩), .int .u64 4] w fun e w1 => e = .returned (.bool false) ∧ RK rb g o c b.length p w1 ∧ Hid (Nw w w1)) := has_call h 4 (by decide) false (decide_eq_false (by omega))
    have HB : Hid (∀ V, Nw w V → P (.returned (.tuple #[.int .i64 b.length, .int .i64 4])) V) := fun V => HBAD.out _ _ V hh
    clear h hf hP hh HBAD
    generalize b.length = L at *
    go_enter Try.func37, Try.ntmps37
    go_wp2_with (first | (go_at_call 34; (with_reducible refine HH.out.mono ?_); rintro e w1 ⟨rfl, ⟨r0, r1, r2⟩, H1⟩) | (go_at_call 50; (with_reducible refine (HSH.out _ H1.out).mono ?_); rintro e w2 ⟨rfl, rfl⟩))
    exact HB.out _ H1.out
  have htl : (tk b p 4).length = 4 := tk_length _ _ _ (by omega)
  have hN : le (tk b p 4) < 4294967296 := by have := le_lt (tk b p 4); rw [htl] at this; exact this
  have HH : Hid (Calls Try.prog 34 #[.pointer (some ⟨rb, 0, none⟩), .int .u64 4] w fun e w1 => e = .returned (.bool true) ∧ RK rb g o c b.length p w1 ∧ Hid (Nw w w1)) := has_call h 4 (by decide) true (decide_eq_true (by omega))
  obtain ⟨p4, hp4⟩ : ∃ p4, p + 4 = p4 := ⟨_, rfl⟩
  have hp4q : (p : Int) + 4 = (p4 : Int) := by omega
  have hz1 : (p4 : Int) ≤ (c : Int) := by omega
  have hz2 : (p : Int) ≤ (p4 : Int) := by omega
  have hz3 : p4 - p = 4 := by omega
  have hz4 : ¬ c = p := by omega
  have hz5 : p4 ≤ c := by omega
  have hz6 : p ≤ p4 := by omega
  have hz7 : IntKind.i64.wrap (p4 : Int) = (p4 : Int) := by rw [IntKind.wrap_i64]; omega
  have hz8 : (0 : Int) ≤ (p : Int) := by omega
  have HNU : Hid (∀ V, Nw w V → Calls Try.prog 51 #[.slice (some ⟨g, o + p, none⟩) 4 (c - p)] V.drew fun e w1 => e = .returned (.int .u64 (le (tk b p 4))) ∧ RK rb g o c b.length p w1 ∧ Hid (Nw w w1)) := fun V hV => by
    have hV' : Nw w V.drew := hV.drew
    refine (dnumber_any _ _ _ V.drew ((h.nw hV').sl p 4 (by omega)) (by rw [htl]; decide)).mono ?_
    rintro e w1 ⟨rfl, rfl⟩
    exact ⟨rfl, RK.of (h.nw hV'), hV'⟩
  obtain ⟨N, hNe⟩ : ∃ N, le (tk b p 4) = N := ⟨_, rfl⟩
  rw [hNe] at HNU hN
  obtain ⟨N4, hN4⟩ : ∃ N4, 4 + N = N4 := ⟨_, rfl⟩
  have hN4q : (4 : Int) + (N : Int) = (N4 : Int) := by omega
  have hN4w : IntKind.u64.wrap (N4 : Int) = (N4 : Int) := by rw [IntKind.wrap_u64]; omega
  by_cases q2 : b.length < p + 4 + N
  · have hh : skipR b p = .bad b.length 4 := by unfold skipR; rw [if_neg q1, hNe, if_pos q2]
    have HH2 : Hid (∀ V, Nw w V → Calls Try.prog 34 #[.pointer (some ⟨rb, 0, none⟩), .int .u64 N4] V fun e w1 => e = .returned (.bool false) ∧ RK rb g o c b.length p w1 ∧ Hid (Nw V w1)) := fun V hV => has_call (h.nw hV) N4 (by omega) false (decide_eq_false (by omega))
    have HB : Hid (∀ V, Nw w V → P (.returned (.tuple #[.int .i64 b.length, .int .i64 4])) V) := fun V => HBAD.out _ _ V hh
    clear h hf hP hh HBAD
    generalize b.length = L at *
    go_enter Try.func37, Try.ntmps37
    go_upto_region 3 with (first | (go_at_call 34; (with_reducible refine HH.out.mono ?_); rintro e w1 ⟨rfl, hk1, H1⟩))
    have HNU1 : Hid (Calls Try.prog 51 #[.slice (some ⟨g, o + p, none⟩) 4 (c - p)] w1.drew fun e w2 => e = .returned (.int .u64 N) ∧ RK rb g o c L p w2 ∧ Hid (Nw w w2)) := HNU.out _ H1.out
    have hk1d : RK rb g o c L p w1.drew := hk1
    unfold RK at hk1 hk1d
    go_region_held3 (fun w' => w'.cell? ⟨rb, 0, none⟩ = some (.slice (some ⟨g, o, none⟩) L c) ∧ w'.cell? ⟨rb, 1, none⟩ = some (.int .i64 p) ∧ w'.frozen? ⟨rb, 1, none⟩ = false)
      (first | assumption)
      (first | (go_at_call 51; (with_reducible refine HNU1.out.mono ?_); rintro e w2 ⟨rfl, hk2, H2⟩; unfold RK at hk2))
    have HH2' : Hid (Calls Try.prog 34 #[.pointer (some ⟨rb, 0, none⟩), .int .u64 N4] w2 fun e w1 => e = .returned (.bool false) ∧ RK rb g o c L p w1 ∧ Hid (Nw w2 w1)) := HH2.out _ H2.out
    go_wp2_with (first | (go_at_call 34; (with_reducible refine HH2'.out.mono ?_); rintro e w3 ⟨rfl, ⟨r0, r1, r2⟩, H3⟩) | (go_at_call 50; (with_reducible refine (HSH.out _ (H2.out.trans H3.out)).mono ?_); rintro e w4 ⟨rfl, rfl⟩))
    exact HB.out _ (H2.out.trans H3.out)
  obtain ⟨q, hq⟩ : ∃ q, p4 + N = q := ⟨_, rfl⟩
  have hqq : (p4 : Int) + (N : Int) = (q : Int) := by omega
  have hqw : IntKind.i64.wrap (q : Int) = (q : Int) := by rw [IntKind.wrap_i64]; omega
  have hNw : IntKind.i64.wrap (N : Int) = (N : Int) := by rw [IntKind.wrap_i64]; omega
  have hh : skipR b p = .ok q := by unfold skipR; rw [if_neg q1, hNe, if_neg q2]; congr 1; omega
  have HH2 : Hid (∀ V, Nw w V → Calls Try.prog 34 #[.pointer (some ⟨rb, 0, none⟩), .int .u64 N4] V fun e w1 => e = .returned (.bool true) ∧ RK rb g o c b.length p w1 ∧ Hid (Nw V w1)) := fun V hV => has_call (h.nw hV) N4 (by omega) true (decide_eq_true (by omega))
  have HST : Hid (∀ V, Nw w V → (∃ x, V.cell? ⟨fb, 2, none⟩ = some x) ∧ V.frozen? ⟨fb, 2, none⟩ = false ∧ RK rb g o c b.length p (V.setCell ⟨fb, 2, none⟩ (.bool true)) ∧ RK rb g o c b.length q ((V.setCell ⟨fb, 2, none⟩ (.bool true)).setCell ⟨rb, 1, none⟩ (.int .i64 q)) ∧ (∃ x, ((V.setCell ⟨fb, 2, none⟩ (.bool true)).setCell ⟨rb, 1, none⟩ (.int .i64 q)).cell? ⟨fb, 1, none⟩ = some x) ∧ ((V.setCell ⟨fb, 2, none⟩ (.bool true)).setCell ⟨rb, 1, none⟩ (.int .i64 q)).frozen? ⟨fb, 1, none⟩ = false ∧ Hid (P (.returned (.tuple #[.int .i64 0, .int .i64 0])) (((V.setCell ⟨fb, 2, none⟩ (.bool true)).setCell ⟨rb, 1, none⟩ (.int .i64 q)).setCell ⟨fb, 1, none⟩ (.int .i64 q)))) := by
    intro V hV
    obtain ⟨k1, k2, k3, k4, k5⟩ := FB.keepRf f (h.nw hV) (hf.nw hV) hfr hKf hDf 2 _ (.bool true) { f with skipped := true } rfl rfl
    obtain ⟨j1, j2⟩ := k3.go q (by omega)
    have k4' := k4.kept j2 hfr
    obtain ⟨m1, m2, m3, m4, m5⟩ := FB.keepRf _ j1 k4' hfr hKf hDf 1 _ (.int .i64 q) { f with skipped := true, till := q } rfl rfl
    refine ⟨⟨_, k1⟩, k2, RK.of k3, RK.of j1, ⟨_, m1⟩, m2, ?_⟩
    show P _ _
    rw [hP, hh]
    exact ⟨((hV.any.trans k5).trans (j2.mono (fun i hi => .inl (.inl hi)))).trans m5, rfl, m3, m4⟩
  clear h hf hP hh HBAD HSH
  generalize b.length = L at *
  go_enter Try.func37, Try.ntmps37
  go_upto_region 3 with (first | (go_at_call 34; (with_reducible refine HH.out.mono ?_); rintro e w1 ⟨rfl, hk1, H1⟩))
  have HNU1 : Hid (Calls Try.prog 51 #[.slice (some ⟨g, o + p, none⟩) 4 (c - p)] w1.drew fun e w2 => e = .returned (.int .u64 N) ∧ RK rb g o c L p w2 ∧ Hid (Nw w w2)) := HNU.out _ H1.out
  have hk1d : RK rb g o c L p w1.drew := hk1
  unfold RK at hk1 hk1d
  go_region_held3 (fun w' => w'.cell? ⟨rb, 0, none⟩ = some (.slice (some ⟨g, o, none⟩) L c) ∧ w'.cell? ⟨rb, 1, none⟩ = some (.int .i64 p) ∧ w'.frozen? ⟨rb, 1, none⟩ = false)
    (first | assumption)
    (first | (go_at_call 51; (with_reducible refine HNU1.out.mono ?_); rintro e w2 ⟨rfl, hk2, H2⟩; unfold RK at hk2))
  have HH2' : Hid (Calls Try.prog 34 #[.pointer (some ⟨rb, 0, none⟩), .int .u64 N4] w2 fun e w1 => e = .returned (.bool true) ∧ RK rb g o c L p w1 ∧ Hid (Nw w2 w1)) := HH2.out _ H2.out
  go_upto_region 6 with (first | (go_at_call 34; (with_reducible refine HH2'.out.mono ?_); rintro e w3 ⟨rfl, ⟨r0, r1, r2⟩, H3⟩))
  obtain ⟨⟨x1, a1⟩, a2, ⟨a3, a4, a5⟩, ⟨a6, a7, a8⟩, ⟨x2, a9⟩, a10, HF⟩ := HST.out w3 (H2.out.trans H3.out)
  clear r0 r1 r2 hk1 hk1d hk2
  go_upto_region 7 with fail
  generalize w3.setCell ⟨fb, 2, none⟩ (.bool true) = V4 at *
  go_upto_region 8 with fail
  generalize V4.setCell ⟨rb, 1, none⟩ (.int .i64 q) = V5 at *
  go_wp2_with fail
  exact HF.out
end Go.Proofs.Ytdeefemeiggolaa

namespace Go.Proofs.Ytdeefemeiggolaa
open Go.RowKit
set_option linter.unusedVariables false
variable {D rb g o c : Nat} {b : List By} {most p : Nat} {out : List By} {K : Nat → Prop} {w : World}
/-! ### block -/
theorem RfI.more (h : RfI D rb g o c b most p out K w) (u : Value) (l : List By) (hu : Sl (fun _ => False) u l w) (hl : out.length + l.length ≤ most) : ∃ a k v' W x, w.cell? ⟨rb, 3, none⟩ = some (.slice a out.length k) ∧ W.cell? ⟨rb, 3, none⟩ = some x ∧ W.frozen? ⟨rb, 3, none⟩ = false ∧ Hid (∀ ty, (Builtin.append_ #[22, 22] ty #[.slice a out.length k, u]).run Try.prog w = .ok v' W) ∧ (∃ a2 l2 k2, v' = .slice a2 l2 k2) ∧ Hid (RfI D rb g o c b most p (out ++ l) K (W.setCell ⟨rb, 3, none⟩ v') ∧ Fr (fun k => k = rb ∨ ¬ K k) w (W.setCell ⟨rb, 3, none⟩ v')) := by
  obtain ⟨vo, h1, h2⟩ := h.row
  obtain ⟨a, k, e, h3, h4⟩ := h2.sl.form
  subst e
  have hml := h.ml
  obtain ⟨v', W, hap, hM, hF⟩ := mine_app K w h.lt _ out h2 u l hu (by omega)
  have hr1 := row_kept h1 hF (fun hx => hx h.kr)
  have f : Fr (fun k => k = rb) W (W.setCell ⟨rb, 3, none⟩ v') := (Fr.refl _ _).setCell _ _ (.inl rfl)
  obtain ⟨a2, k2, e2, _, _⟩ := hM.sl.form
  refine ⟨a, k, v', W, _, (row_cell h1 3 _ rfl).1, (row_cell hr1 3 _ rfl).1, (row_cell hr1 3 _ rfl).2, hap, ⟨a2, _, k2, e2⟩, ⟨⟨v', row_set hr1 3 _, hM.kept f (fun k hk => .inl (by subst hk; exact h.kr))⟩, h.kr, h.dr, h.low, h.gd, (h.rd.kept hF (fun hx => hx (h.low g h.gd))).kept f (fun e => by have := h.gd; have := h.dr; omega), fun k hk => Nat.lt_of_lt_of_le (h.lt k hk) (Nat.le_trans hF.size f.size), h.hc, h.hc2, h.pl, by rw [List.length_append]; exact hl, h.ml, h.bl⟩, (hF.mono (fun k hk => .inl (.inr hk))).trans (f.mono (fun k hk => .inl (.inl hk)))⟩
theorem blk_tail {V : World} (h : RfI D rb g o c b most p out K V) (fb : Nat) (fX : Fm) (hf : FB fb fX V) (hfr : fb ≠ rb) (hKf : K fb) (ao : Option Addr) (ol ko : Nat) (hc3 : V.cell? ⟨rb, 3, none⟩ = some (.slice ao ol ko)) (u : Value) (l : List By) (hu : Sl (fun _ => False) u l V) (hl : out.length + l.length ≤ most) (p' : Nat) (hp' : p' ≤ b.length) :
    ∃ a2 l2 k2 W x, W.cell? ⟨rb, 3, none⟩ = some x ∧ W.frozen? ⟨rb, 3, none⟩ = false ∧ Hid (∀ ty, (Builtin.append_ #[22, 22] ty #[.slice ao ol ko, u]).run Try.prog V = .ok (.slice a2 l2 k2) W) ∧ (∃ y, (W.setCell ⟨rb, 3, none⟩ (.slice a2 l2 k2)).cell? ⟨rb, 1, none⟩ = some y) ∧ (W.setCell ⟨rb, 3, none⟩ (.slice a2 l2 k2)).frozen? ⟨rb, 1, none⟩ = false ∧ Hid (RfI D rb g o c b most p' (out ++ l) K ((W.setCell ⟨rb, 3, none⟩ (.slice a2 l2 k2)).setCell ⟨rb, 1, none⟩ (.int .i64 p')) ∧ FB fb fX ((W.setCell ⟨rb, 3, none⟩ (.slice a2 l2 k2)).setCell ⟨rb, 1, none⟩ (.int .i64 p')) ∧ Fr (fun k => k = rb ∨ ¬ K k) V ((W.setCell ⟨rb, 3, none⟩ (.slice a2 l2 k2)).setCell ⟨rb, 1, none⟩ (.int .i64 p'))) := by
  obtain ⟨a, k, v', W, x, h1, h2, h3, h4, ⟨a2, l2, k2, rfl⟩, h6⟩ := h.more u l hu hl
  rw [hc3] at h1
  have e := Option.some.inj h1
  injection e with e1 e2 e3
  subst e1 e2 e3
  obtain ⟨j1, j2⟩ := h6.out.1.go p' hp'
  obtain ⟨_, y1, _, y3, _⟩ := h6.out.1.cells
  have hF : Fr (fun k => k = rb ∨ ¬ K k) V ((W.setCell ⟨rb, 3, none⟩ (.slice a2 l2 k2)).setCell ⟨rb, 1, none⟩ (.int .i64 p')) := h6.out.2.trans (j2.mono (fun i hi => .inl (.inl hi)))
  exact ⟨a2, l2, k2, W, x, h2, h3, h4, ⟨_, y1⟩, y3, j1, hf.kept hF (fun hx => by rcases hx with hx | hx; exact hfr hx; exact hx hKf), hF⟩
/-- What block answers. -/
def EBk (D rb g o c : Nat) (b : List By) (most p : Nat) (out : List By) (K : Nat → Prop) (w : World) (fb : Nat) (f : Fm) (r : Bk) (e : Ending) (w' : World) : Prop :=
  Fr (fun k => k = rb ∨ k = fb ∨ ¬ K k) w w' ∧ match r with
    | .bad a y => e = .returned (.tuple #[.bool false, .int .i64 a, .int .i64 y])
    | .fin => e = .returned (.tuple #[.bool true, .int .i64 0, .int .i64 0]) ∧ RfI D rb g o c b most p out K w' ∧ FB fb f w'
    | .ok p' out' pl => e = .returned (.tuple #[.bool false, .int .i64 0, .int .i64 0]) ∧ RfI D rb g o c b most p' out' K w' ∧ FB fb { f with blocks := f.blocks + 1, plain := if pl = true then f.plain + 1 else f.plain } w'
/-- The cells ahead of Blocks++. -/
def BF (rb fb sb g o c L p most : Nat) (ao : Option Addr) (ol ko blk : Nat) (s : Shp) (V : World) : Prop := RK rb g o c L p V ∧ (V.cell? ⟨rb, 2, none⟩ = some (.int .i64 most) ∧ V.cell? ⟨rb, 3, none⟩ = some (.slice ao ol ko)) ∧ (V.cell? ⟨fb, 9, none⟩ = some (.int .i64 blk) ∧ V.frozen? ⟨fb, 9, none⟩ = false) ∧ SK sb s.block s.alone s.bsum s.csum s.csize V
/-- The setting of block. -/
structure BS (D rb g o c : Nat) (b : List By) (most p : Nat) (out : List By) (K : Nat → Prop) (w : World) (fb : Nat) (f : Fm) (s : Shp) (ao : Option Addr) (ko : Nat) (W1 : World) : Prop where
  h : RfI D rb g o c b most p out K w
  hf : FB fb f w
  hfr : fb ≠ rb
  hKf : K fb
  hDf : D ≤ fb
  hs1 : 4 ≤ s.block
  hs2 : s.block ≤ 7
  hb1 : f.blocks < 4611686018427387904
  hb2 : f.plain < 4611686018427387904
  hao : w.cell? ⟨rb, 3, none⟩ = some (.slice ao out.length ko)
  hN1 : Nw w W1
  hrow : W1.heap[w.heap.size]? = some (.cells #[.int .i64 s.block, .bool s.alone, .bool s.bsum, .bool s.csum, .bool s.csize] 24)
variable {fb : Nat} {f : Fm} {s : Shp} {ao : Option Addr} {ko : Nat} {W1 : World}
theorem BS.bf (B : BS D rb g o c b most p out K w fb f s ao ko W1) {V : World} (hV : Nw W1 V) : BF rb fb w.heap.size g o c b.length p most ao out.length ko f.blocks s V := by
  have hwV := B.hN1.trans hV
  have h := B.h.nw hwV
  have hf := B.hf.nw hwV
  exact ⟨RK.of h, ⟨h.cells.2.2.1, hwV.cell B.hao⟩, ⟨(row_cell hf 9 _ rfl).1, (row_cell hf 9 _ rfl).2⟩, (HK.of h (hV.heap B.hrow)).2⟩
theorem BS.rf (B : BS D rb g o c b most p out K w fb f s ao ko W1) {V : World} (hV : Nw W1 V) : RfI D rb g o c b most p out K V := B.h.nw (B.hN1.trans hV)
theorem BS.has (B : BS D rb g o c b most p out K w fb f s ao ko W1) (n : Nat) (z : Int) (hz : (n : Int) = z) (hn : n < 18446744073709551616) (v : Bool) (hv : decide (p + n ≤ b.length) = v) : Hid (∀ V, Nw W1 V → Calls Try.prog 34 #[.pointer (some ⟨rb, 0, none⟩), .int .u64 z] V fun e w1 => e = .returned (.bool v) ∧ BF rb fb w.heap.size g o c b.length p most ao out.length ko f.blocks s w1 ∧ Hid (Nw W1 w1)) := by
  intro V hV
  subst hz
  refine (ehas_any (B.rf hV) n hn).mono ?_
  rintro e w1 ⟨rfl, h1⟩
  exact ⟨by rw [hv], B.bf (hV.trans h1), hV.trans h1⟩
theorem BS.short (B : BS D rb g o c b most p out K w fb f s ao ko W1) : Hid (∀ V, Nw W1 V → Calls Try.prog 50 #[.pointer (some ⟨rb, 0, none⟩)] V fun e w1 => e = .returned (.tuple #[.int .i64 b.length, .int .i64 4]) ∧ w1 = V) := fun V hV => eshort_any (B.rf hV)
theorem BS.size (B : BS D rb g o c b most p out K w fb f s ao ko W1) : Hid (∀ V, Nw W1 V → Calls Try.prog 42 #[.agg #[.int .i64 s.block, .bool s.alone, .bool s.bsum, .bool s.csum, .bool s.csize]] V fun e w1 => e = .returned (.int .i64 (siz s)) ∧ BF rb fb w.heap.size g o c b.length p most ao out.length ko f.blocks s w1 ∧ Hid (Nw W1 w1)) := by
  intro V hV
  refine (dSize_any s B.hs1 B.hs2 V).mono ?_
  rintro e w1 ⟨rfl, h1⟩
  exact ⟨rfl, B.bf (hV.trans h1), hV.trans h1⟩
theorem BS.num (B : BS D rb g o c b most p out K w fb f s ao ko W1) (hp : p + 4 ≤ b.length) : Hid (∀ V, Nw W1 V → Calls Try.prog 51 #[.slice (some ⟨g, o + p, none⟩) 4 (c - p)] V.drew fun e w1 => e = .returned (.int .u64 (le (tk b p 4))) ∧ BF rb fb w.heap.size g o c b.length p most ao out.length ko f.blocks s w1 ∧ Hid (Nw W1 w1)) := by
  intro V hV
  have hV' : Nw W1 V.drew := hV.drew
  refine (dnumber_any _ _ _ V.drew ((B.rf hV').sl p 4 hp) (by rw [tk_length _ _ _ hp]; decide)).mono ?_
  rintro e w1 ⟨rfl, rfl⟩
  exact ⟨rfl, B.bf hV', hV'⟩
theorem BS.siz_le (B : BS D rb g o c b most p out K w fb f s ao ko W1) : siz s ≤ 4194304 := Nat.le_trans (Nat.pow_le_pow_right (by decide) (show 8 + 2 * s.block ≤ 22 by have := B.hs2; omega)) (by decide)
end Go.Proofs.Ytdeefemeiggolaa

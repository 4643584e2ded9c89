import Derived.Test.YtegabbfdnpjkkaaRanZ
namespace Go.Proofs.Ytegabbfdnpjkkaa
open Go.RowKit
set_option linter.unusedVariables false
set_option linter.unusedSimpArgs false

/-- A slice that is the given one, or new. -/
def OrS (ol : Option Nat) (R : List Rg) (w w' : World) (v : Value) : Prop :=
  ∃ a c og, v = .slice a R.length c ∧ SVal (.slice a R.length c) og R w' ∧ (og = ol ∨ ∀ g, og = some g → w.heap.size ≤ g) ∧ Nw w w'
def WiRes (ol : Option Nat) (R : List Rg) (w w' : World) (e : Ending) : Prop := ∃ v, e = .returned v ∧ OrS ol R w w' v
def R2Res (ol : Option Nat) (P : List Rg × Int) (w w' : World) (e : Ending) : Prop := ∃ v, e = .returned (.tuple #[v, .int .i64 P.2]) ∧ OrS ol P.1 w w' v
def withLL (L : List Rg) (x : Rg) : List Rg := if x.1 < x.2 then withL L x else L
def refAdd (L : List Rg) (x : Rg) : List Rg × Int := if cb x = true then (if 65536 < (withLL L x).length then (L, 2) else (withLL L x, 0)) else (L, 12)
def refCut (L : List Rg) (x : Rg) : List Rg × Int := if cb x = true then (if 65536 < (wo L x).length then (L, 2) else (wo L x, 0)) else (L, 12)

theorem OrS.same {ol : Option Nat} {L : List Rg} {w w' : World} {a : Option Addr} {c : Nat} (h : SVal (.slice a L.length c) ol L w) (hN : Nw w w') : OrS ol L w w' (.slice a L.length c) :=
  ⟨a, c, ol, rfl, Nw.sval hN h, .inl rfl, hN⟩
theorem OrS.pre {ol : Option Nat} {R : List Rg} {w w1 w' : World} {v : Value} (hN : Nw w w1) (h : OrS ol R w1 w' v) : OrS ol R w w' v := by
  obtain ⟨a, c, og, rfl, h2, h3, h4⟩ := h
  exact ⟨a, c, og, rfl, h2, h3.imp id (fun h g hg => Nat.le_trans hN.size (h g hg)), hN.trans h4⟩
theorem OrS.new {ol : Option Nat} {R : List Rg} {w w' : World} {b : Option Addr} {c : Nat} (h : NewS w w' (.slice b R.length c) R) : OrS ol R w w' (.slice b R.length c) := by
  obtain ⟨og, h1, h2, h3⟩ := h
  exact ⟨b, c, og, rfl, h1, .inr h2, h3⟩

set_option maxHeartbeats 2000000 in
set_option maxRecDepth 100000 in
theorem with_any (lv : Value) (ol : Option Nat) (L : List Rg) (x : Rg) (w : World) (h : SVal lv ol L w) (hL : L.length ≤ 65536) :
    Calls Try.prog 45 #[lv, rv x] w fun e w' => WiRes ol (withLL L x) w w' e := by
  by_cases hx : x.1 < x.2
  · refine (with_yes lv ol L x w h hL hx).mono ?_
    rintro e w' ⟨b, c, rfl, h1⟩
    have : withLL L x = withL L x := by unfold withLL; rw [if_pos hx]
    rw [this]
    exact ⟨_, rfl, OrS.new h1⟩
  · have hw : withLL L x = L := by unfold withLL; rw [if_neg hx]
    rw [hw]
    obtain ⟨la, lc, rfl, _, _⟩ := h.form
    have H0 : Hid (SVal (.slice la L.length lc) ol L w) := h
    clear h hw
    go_enter Try.func45, Try.ntmps45
    go_wp2
    go_ret
    exact ⟨_, rfl, OrS.same H0.out (by ((repeat (first | exact Fr.refl _ _ | apply Fr.drew | apply Fr.drewN | apply Fr.alloc | refine Fr.setCell ?_ _ _ (.inr (by simp)))); done))⟩

set_option maxHeartbeats 2000000 in
set_option maxRecDepth 100000 in
theorem add2_any (lv : Value) (ol : Option Nat) (L : List Rg) (x : Rg) (w : World) (h : SVal lv ol L w) (hL : L.length ≤ 65536) :
    Calls Try.prog 25 #[lv, rv x] w fun e w' => R2Res ol (refAdd L x) w w' e := by
  obtain ⟨la, lc, rfl, _, _⟩ := h.form
  have H0 : Hid (SVal (.slice la L.length lc) ol L w) := h
  have HN0 : Hid (Nw w (w.alloc (.cells #[.int .i64 x.1, .int .i64 x.2] 49))) := (Fr.refl _ _).alloc _
  have HB : Hid (BoxB w.heap.size x (w.alloc (.cells #[.int .i64 x.1, .int .i64 x.2] 49))) := BoxB.new w x
  have HC := fun w => canBe2_any x w
  cases hx : cb x with
  | false =>
    rw [hx] at HC
    have hR : refAdd L x = (L, 12) := by unfold refAdd; rw [hx]; rfl
    rw [hR]
    clear h hR hx
    go_enter Try.func25, Try.ntmps25
    go_wp2_with (go_at_call 33; refine (HC _).mono ?_; rintro e w1 ⟨rfl, hN1⟩; obtain ⟨q0, q1, _⟩ := (BoxB.nw HB.out hN1).cell)
    go_ret2
    exact ⟨_, rfl, OrS.same H0.out (Nw.trans HN0.out hN1)⟩
  | true =>
    rw [hx] at HC
    have CALL : Hid (∀ W, Nw w W → Calls Try.prog 45 #[.slice la L.length lc, rv x] W fun e w' => WiRes ol (withLL L x) W w' e) := fun W hW => with_any _ ol L x W (Nw.sval hW h) hL
    have hR : refAdd L x = (if 65536 < (withLL L x).length then (L, 2) else (withLL L x, 0)) := by unfold refAdd; rw [hx]; rfl
    rw [hR]
    generalize withLL L x = R at CALL hR ⊢
    by_cases hl : 65536 < R.length
    · rw [if_pos hl]
      have hlz : (65536 : Int) < (R.length : Int) := by omega
      clear h hR hx
      go_enter Try.func25, Try.ntmps25
      go_wp2_with (first | (go_at_call 33; refine (HC _).mono ?_; rintro e w1 ⟨rfl, hN1⟩; obtain ⟨q0, q1, _⟩ := (BoxB.nw HB.out hN1).cell) | (go_at_call 45; refine (CALL.out _ (Nw.trans HN0.out hN1)).mono ?_; rintro e w2 ⟨v, rfl, hv⟩; obtain ⟨ra, rc, og, rfl, r1, r2, hN2⟩ := hv))
      go_ret2
      exact ⟨_, rfl, OrS.same H0.out ((Nw.trans HN0.out hN1).trans hN2)⟩
    · rw [if_neg hl]
      have hlz : ¬ (65536 : Int) < (R.length : Int) := by omega
      clear h hR hx
      go_enter Try.func25, Try.ntmps25
      go_wp2_with (first | (go_at_call 33; refine (HC _).mono ?_; rintro e w1 ⟨rfl, hN1⟩; obtain ⟨q0, q1, _⟩ := (BoxB.nw HB.out hN1).cell) | (go_at_call 45; refine (CALL.out _ (Nw.trans HN0.out hN1)).mono ?_; rintro e w2 ⟨v, rfl, hv⟩; obtain ⟨ra, rc, og, rfl, r1, r2, hN2⟩ := hv))
      go_ret2
      exact ⟨_, rfl, OrS.pre (Nw.trans HN0.out hN1) ⟨ra, rc, og, rfl, r1, r2, hN2⟩⟩

set_option maxHeartbeats 2000000 in
set_option maxRecDepth 100000 in
theorem rcut_any (lv : Value) (ol : Option Nat) (L : List Rg) (x : Rg) (w : World) (h : SVal lv ol L w) (hL : L.length ≤ 65536) :
    Calls Try.prog 23 #[lv, rv x] w fun e w' => R2Res ol (refCut L x) w w' e := by
  obtain ⟨la, lc, rfl, _, _⟩ := h.form
  have H0 : Hid (SVal (.slice la L.length lc) ol L w) := h
  have HN0 : Hid (Nw w (w.alloc (.cells #[.int .i64 x.1, .int .i64 x.2] 49))) := (Fr.refl _ _).alloc _
  have HB : Hid (BoxB w.heap.size x (w.alloc (.cells #[.int .i64 x.1, .int .i64 x.2] 49))) := BoxB.new w x
  have HC := fun w => canBe2_any x w
  cases hx : cb x with
  | false =>
    rw [hx] at HC
    have hR : refCut L x = (L, 12) := by unfold refCut; rw [hx]; rfl
    rw [hR]
    clear h hR hx
    go_enter Try.func23, Try.ntmps23
    go_wp2_with (go_at_call 33; refine (HC _).mono ?_; rintro e w1 ⟨rfl, hN1⟩; obtain ⟨q0, q1, _⟩ := (BoxB.nw HB.out hN1).cell)
    go_ret2
    exact ⟨_, rfl, OrS.same H0.out (Nw.trans HN0.out hN1)⟩
  | true =>
    rw [hx] at HC
    have CALL : Hid (∀ W, Nw w W → Calls Try.prog 42 #[.slice la L.length lc, rv x] W fun e w' => WoRes (wo L x) W w' e) := fun W hW => wo_any _ ol L x W (Nw.sval hW h) (by omega)
    have hR : refCut L x = (if 65536 < (wo L x).length then (L, 2) else (wo L x, 0)) := by unfold refCut; rw [hx]; rfl
    rw [hR]
    generalize wo L x = R at CALL hR ⊢
    by_cases hl : 65536 < R.length
    · rw [if_pos hl]
      have hlz : (65536 : Int) < (R.length : Int) := by omega
      clear h hR hx
      go_enter Try.func23, Try.ntmps23
      go_wp2_with (first | (go_at_call 33; refine (HC _).mono ?_; rintro e w1 ⟨rfl, hN1⟩; obtain ⟨q0, q1, _⟩ := (BoxB.nw HB.out hN1).cell) | (go_at_call 42; refine (CALL.out _ (Nw.trans HN0.out hN1)).mono ?_; rintro e w2 ⟨ra, rc, rfl, hv⟩; have hN2 := hv.choose_spec.2.2))
      go_ret2
      exact ⟨_, rfl, OrS.same H0.out ((Nw.trans HN0.out hN1).trans hN2)⟩
    · rw [if_neg hl]
      have hlz : ¬ (65536 : Int) < (R.length : Int) := by omega
      clear h hR hx
      go_enter Try.func23, Try.ntmps23
      go_wp2_with (first | (go_at_call 33; refine (HC _).mono ?_; rintro e w1 ⟨rfl, hN1⟩; obtain ⟨q0, q1, _⟩ := (BoxB.nw HB.out hN1).cell) | (go_at_call 42; refine (CALL.out _ (Nw.trans HN0.out hN1)).mono ?_; rintro e w2 ⟨ra, rc, rfl, hv⟩; have HV : Hid _ := hv; clear hv))
      go_ret2
      exact ⟨_, rfl, OrS.pre (Nw.trans HN0.out hN1) (OrS.new HV.out)⟩
end Go.Proofs.Ytegabbfdnpjkkaa

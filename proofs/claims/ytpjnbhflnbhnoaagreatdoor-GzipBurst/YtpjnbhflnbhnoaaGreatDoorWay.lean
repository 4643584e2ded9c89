import Derived.Test.YtpjnbhflnbhnoaaGreatDoorWas
import Derived.Test.YtpjnbhflnbhnoaaGreatDoorWax
import Derived.BigQuiet
namespace Go.Proofs.YtpjnbhflnbhnoaaGreatDoor
open Go.RowKit
set_option linter.unusedVariables false
theorem zgiveUp_any (y : Nat) (w : World) : Calls Tryz.prog 125 #[.int .i64 y] w fun e w' => e = gv y ∧ w' = w := by
  unfold gv
  go_enter Tryz.func125, Tryz.ntmps125
  go_wp2
  exact ⟨rfl, rfl, rfl⟩
/-- A head's reader in memory: b from p on; b lies below D. -/
structure Yr (D rb : Nat) (va : Option Addr) (vc : Nat) (b : List By) (p : Nat) (w : World) : Prop where
  row : w.heap[rb]? = some (.cells #[.slice va b.length vc, .int .i64 p] 85)
  sl : Sl (fun k => D ≤ k) (.slice va b.length vc) b w
  dr : D ≤ rb
  pl : p ≤ b.length
  bl : b.length ≤ 140737488351232
variable {D rb : Nat} {va : Option Addr} {vc : Nat} {b : List By} {p : Nat} {w : World}
theorem Yr.keep {X : Nat → Prop} {w' : World} (h : Yr D rb va vc b p w) (f : Fr X w w') (h1 : ¬ X rb) (h2 : ∀ k, X k → D ≤ k) : Yr D rb va vc b p w' := ⟨row_kept h.row f h1, h.sl.kept f h2, h.dr, h.pl, h.bl⟩
theorem Yr.nw {w' : World} (h : Yr D rb va vc b p w) (f : Nw w w') : Yr D rb va vc b p w' := h.keep f (fun e => e) (fun _ e => e.elim)
theorem Yr.go (h : Yr D rb va vc b p w) (q : Nat) (hq : q ≤ b.length) : Yr D rb va vc b q (w.setCell ⟨rb, 1, none⟩ (.int .i64 q)) ∧ Fr (fun k => k = rb) w (w.setCell ⟨rb, 1, none⟩ (.int .i64 q)) := by
  have f : Fr (fun k => k = rb) w (w.setCell ⟨rb, 1, none⟩ (.int .i64 q)) := (Fr.refl _ _).setCell _ _ (.inl rfl)
  exact ⟨⟨row_set h.row 1 _, h.sl.kept f (fun k hk => by rw [hk]; exact h.dr), h.dr, hq, h.bl⟩, f⟩
theorem Yr.form (h : Yr D rb va vc b p w) (h0 : 0 < b.length) : ∃ g o, va = some ⟨g, o, none⟩ ∧ g < D ∧ b.length ≤ vc ∧ vc < 9223372036854775808 ∧ Rd g o b w := by
  rcases h.sl with ⟨a', e, e2⟩ | ⟨g, hg, o, c', e, e1, e2, e3⟩
  · rw [e2] at h0; simp at h0
  · injection e with ea _ ec
    subst ec
    exact ⟨g, o, ea, by omega, e1, e2, e3⟩
/-- n bytes from q on, as they lie there. -/
def YC (D : Nat) (b : List By) (q n : Nat) (v : Value) (w : World) : Prop := ∃ a k, v = .slice a n k ∧ n ≤ k ∧ k < 9223372036854775808 ∧ Sl (fun k => D ≤ k) v ((b.drop q).take n) w ∧ (0 < n → ∃ g o, a = some ⟨g, o, none⟩ ∧ g < D ∧ Rd g o ((b.drop q).take n) w)
set_option maxHeartbeats 8000000 in
set_option maxRecDepth 100000 in
theorem ytake_ok (h : Yr D rb va vc b p w) (n : Nat) (hn : p + n ≤ b.length) (h0 : 0 < b.length) : Calls Tryz.prog 83 #[.pointer (some ⟨rb, 0, none⟩), .int .i64 n] w fun e w' => ∃ v, e = .returned v ∧ YC D b p n v w' ∧ Yr D rb va vc b (p + n) w' ∧ Fr (fun k => k = rb) w w' := by
  obtain ⟨P, hP⟩ : ∃ P : Ending → World → Prop, P = fun e w' => ∃ v, e = .returned v ∧ YC D b p n v w' ∧ Yr D rb va vc b (p + n) w' ∧ Fr (fun k => k = rb) w w' := ⟨_, rfl⟩
  rw [← hP]
  obtain ⟨g, o, rfl, hgD, hcb, hc2, hrd⟩ := h.form h0
  have hbl := h.bl
  have x0 := (row_cell h.row 0 _ rfl).1
  have x1 := (row_cell h.row 1 _ rfl).1
  have x1f := (row_cell h.row 1 (.int .i64 p) rfl).2
  have hlen : ((b.drop p).take n).length = n := by rw [List.length_take, List.length_drop]; omega
  have HF : Hid (∀ V W, Nw w V → Nw (V.setCell ⟨rb, 1, none⟩ (.int .i64 ((p + n : Nat) : Int))) W → (vc = p → ∀ a, P (.returned (.slice a n 0)) W) ∧ P (.returned (.slice (some ⟨g, o + p, none⟩) n (vc - p))) W) := by
    intro V W hV hW
    have h1 := ((h.nw hV).go (p + n) hn)
    have h2 := h1.1.nw hW
    have h3 : Fr (fun k => k = rb) w W := (hV.any.trans h1.2).trans hW.any
    obtain ⟨g', o', e, _, _, _, hrd2⟩ := h2.form h0
    injection e with e
    injection e with e1 e2
    subst e1 e2
    rw [hP]
    have hrd3 := (hrd2.drop p).take n
    refine ⟨fun hcp a => ?_, _, rfl, ⟨_, _, rfl, by omega, by omega, .inr ⟨g, by omega, o + p, vc - p, by rw [hlen], by rw [hlen]; omega, by omega, hrd3⟩, fun _ => ⟨g, o + p, rfl, hgD, hrd3⟩⟩, h2, h3⟩
    obtain rfl : n = 0 := by omega
    exact ⟨_, rfl, ⟨_, _, rfl, by omega, by omega, .inl ⟨a, rfl, by simp⟩, fun e => by omega⟩, h2, h3⟩
  have HK : Hid (∀ V, Nw w V → V.cell? ⟨rb, 0, none⟩ = some (.slice (some ⟨g, o, none⟩) b.length vc) ∧ V.cell? ⟨rb, 1, none⟩ = some (.int .i64 p) ∧ V.frozen? ⟨rb, 1, none⟩ = false ∧ (V.setCell ⟨rb, 1, none⟩ (.int .i64 ((p + n : Nat) : Int))).cell? ⟨rb, 0, none⟩ = some (.slice (some ⟨g, o, none⟩) b.length vc) ∧ (V.setCell ⟨rb, 1, none⟩ (.int .i64 ((p + n : Nat) : Int))).cell? ⟨rb, 1, none⟩ = some (.int .i64 ((p + n : Nat) : Int))) := by
    intro V hV
    have y := (h.nw hV).row
    have z := ((h.nw hV).go (p + n) hn).1.row
    exact ⟨(row_cell y 0 _ rfl).1, (row_cell y 1 _ rfl).1, (row_cell y 1 (.int .i64 p) rfl).2, (row_cell z 0 _ rfl).1, (row_cell z 1 _ rfl).1⟩
  clear h hP hrd hlen
  have hz0 : ¬ (b.length : Int) - (p : Int) < (n : Int) := by omega
  have hz1 : (p : Int) + (n : Int) = ((p + n : Nat) : Int) := by omega
  have hz2 : ((p + n : Nat) : Int) - (n : Int) = (p : Int) := by omega
  have hz3 : ((p + n : Nat) : Int) ≤ (vc : Int) := by omega
  have hz4 : (p : Int) ≤ ((p + n : Nat) : Int) := by omega
  have hz5 : p + n - p = n := by omega
  generalize b.length = L at *
  generalize hq : p + n = q at *
  go_enter Tryz.func83, Tryz.ntmps83
  go_wp2_with fail
  go_quiet (fail)
  go_wp2
  have hV : Nw w (w.drewN nq) := (Fr.refl _ _).drewN _
  obtain ⟨y0, y1, y2, y3, y4⟩ := HK.out _ hV
  have HF1 := HF.out (w.drewN nq)
  generalize w.drewN nq = V at *
  obtain ⟨W1, hW1⟩ : ∃ W1, W1 = V.setCell ⟨rb, 1, none⟩ (.int .i64 q) := ⟨_, rfl⟩
  rw [← hW1] at y3 y4 HF1 ⊢
  have HF2 : Hid (∀ W, Nw W1 W → (vc = p → ∀ a, P (.returned (.slice a n 0)) W) ∧ P (.returned (.slice (some ⟨g, o + p, none⟩) n (vc - p))) W) := fun W hW => HF1 W hV hW
  clear HF1 HF HK hW1 y0 y1 y2 x0 x1 x1f
  by_cases hcp : vc = p
  · go_quiet (fail)
    go_wp2
    exact (HF2.out _ ((Fr.refl _ _).drewN _)).1 hcp _
  · go_quiet (fail)
    go_wp2
    exact (HF2.out _ ((Fr.refl _ _).drewN _)).2
set_option maxHeartbeats 8000000 in
set_option maxRecDepth 100000 in
theorem ytake_bad (h : Yr D rb va vc b p w) (n : Nat) (hn : b.length < p + n) (hn2 : n < 9223372036854775808) : Calls Tryz.prog 83 #[.pointer (some ⟨rb, 0, none⟩), .int .i64 n] w fun e w' => e = gv 4 ∧ Nw w w' := by
  obtain ⟨P, hP⟩ : ∃ P : Ending → World → Prop, P = fun e w' => e = gv 4 ∧ Nw w w' := ⟨_, rfl⟩
  rw [← hP]
  have hbl := h.bl
  have hpl := h.pl
  have x0 := (row_cell h.row 0 _ rfl).1
  have x1 := (row_cell h.row 1 _ rfl).1
  have HG : Hid (∀ V, Nw w V → Calls Tryz.prog 125 #[.int .i64 4] V fun e w' => ∃ ch, e = .panicked ch ∧ Hid (P (.panicked ch) w')) := by
    intro V hV
    refine (zgiveUp_any 4 V).mono ?_
    rintro e w' ⟨rfl, rfl⟩
    refine ⟨_, rfl, ?_⟩
    show P _ _
    rw [hP]
    exact ⟨rfl, hV⟩
  clear h hP
  have hz0 : (b.length : Int) - (p : Int) < (n : Int) := by omega
  generalize b.length = L at *
  go_enter Tryz.func83, Tryz.ntmps83
  go_wp2_with fail
  go_quiet (fail)
  have hV : Nw w (w.drewN nq) := (Fr.refl _ _).drewN _
  have HG2 := toHid2 (HG.out _ hV)
  go_wp2_with (first | (go_at_call 125; (with_reducible refine HG2.out.mono ?_); rintro e w2 ⟨ch, rfl, HF⟩))
  exact ⟨rfl, HF.out⟩
end Go.Proofs.YtpjnbhflnbhnoaaGreatDoor

namespace Go.Proofs.YtpjnbhflnbhnoaaGreatDoor
open Go.RowKit
set_option linter.unusedVariables false
variable {D rb : Nat} {va : Option Addr} {vc : Nat} {b : List By} {p : Nat} {w : World}
set_option maxHeartbeats 8000000 in
theorem ynumber_ok (h : Yr D rb va vc b p w) (k : Nat) (hk : k ≤ 8) (hk0 : 0 < k) (hn : p + k ≤ b.length) : Calls Tryz.prog 82 #[.pointer (some ⟨rb, 0, none⟩), .int .i64 k] w fun e w' => e = .returned (.int .u64 (le ((b.drop p).take k))) ∧ Yr D rb va vc b (p + k) w' ∧ Fr (fun k => k = rb) w w' := by
  obtain ⟨P, hP⟩ : ∃ P : Ending → World → Prop, P = fun e w' => e = .returned (.int .u64 (le ((b.drop p).take k))) ∧ Yr D rb va vc b (p + k) w' ∧ Fr (fun k => k = rb) w w' := ⟨_, rfl⟩
  rw [← hP]
  have hl : ((b.drop p).take k).length = k := by rw [List.length_take, List.length_drop]; omega
  have HC : Hid (Calls Tryz.prog 83 #[.pointer (some ⟨rb, 0, none⟩), .int .i64 k] w fun e w1 => ∃ a n k', e = .returned (.slice a n k') ∧ Hid (Calls Tryz.prog 57 #[.slice a n k'] w1 fun e w' => e = .returned (.int .u64 (le ((b.drop p).take k))) ∧ Hid (P (.returned (.int .u64 (le ((b.drop p).take k)))) w'))) := by
    show Calls _ _ _ _ _
    refine (ytake_ok h k hn (by omega)).mono ?_
    rintro e w1 ⟨v, rfl, ⟨a, k', rfl, _, _, h1, h1b⟩, h2, h3⟩
    refine ⟨a, k, k', rfl, ?_⟩
    show Calls _ _ _ _ _
    rcases h1 with ⟨_, _, h1⟩ | ⟨q, _, h1⟩
    · rw [h1] at hl; simp at hl; omega
    refine (lnumber_any q _ ((b.drop p).take k) w1 h1 (by omega)).mono ?_
    rintro e w2 ⟨rfl, rfl⟩
    refine ⟨rfl, ?_⟩
    show P _ _
    rw [hP]
    exact ⟨rfl, h2, h3⟩
  clear h hP hl
  generalize le ((b.drop p).take k) = z at *
  go_enter Tryz.func82, Tryz.ntmps82
  go_wp2_with (first | (go_at_call 83; with_reducible refine HC.out.mono ?_; rintro e w1 ⟨a, n, k', rfl, HD⟩) | (go_at_call 57; with_reducible refine HD.out.mono ?_; rintro e w2 ⟨rfl, HF⟩))
  exact HF.out
theorem ynumber_bad (h : Yr D rb va vc b p w) (k : Nat) (hk : k ≤ 8) (hn : b.length < p + k) : Calls Tryz.prog 82 #[.pointer (some ⟨rb, 0, none⟩), .int .i64 k] w fun e w' => e = gv 4 ∧ Nw w w' := by
  obtain ⟨P, hP⟩ : ∃ P : Ending → World → Prop, P = fun e w' => e = gv 4 ∧ Nw w w' := ⟨_, rfl⟩
  rw [← hP]
  have HC : Hid (Calls Tryz.prog 83 #[.pointer (some ⟨rb, 0, none⟩), .int .i64 k] w fun e w1 => ∃ ch, e = .panicked ch ∧ Hid (P (.panicked ch) w1)) := by
    show Calls _ _ _ _ _
    refine (ytake_bad h k hn (by omega)).mono ?_
    rintro e w1 ⟨rfl, hN⟩
    refine ⟨_, rfl, ?_⟩
    show P _ _
    rw [hP]
    exact ⟨rfl, hN⟩
  clear h hP
  go_enter Tryz.func82, Tryz.ntmps82
  go_wp2_with (first | (go_at_call 83; with_reducible refine HC.out.mono ?_; rintro e w1 ⟨ch, rfl, HF⟩))
  exact ⟨rfl, HF.out⟩
/-- be: a function that asks for one byte. -/
theorem zbe_any (w : World) (x : Nat) : Calls Tryz.prog 80 #[.int .u8 x] w fun e w' => e = .returned (.func (.func 126) #[] #[.pointer (some ⟨w.heap.size, 0, none⟩)]) ∧ w' = w.alloc (.cells #[.int .u8 x] 5) := by
  obtain ⟨P, hP⟩ : ∃ P : Ending → World → Prop, P = fun e w' => e = .returned (.func (.func 126) #[] #[.pointer (some ⟨w.heap.size, 0, none⟩)]) ∧ w' = w.alloc (.cells #[.int .u8 x] 5) := ⟨_, rfl⟩
  rw [← hP]
  have HF : Hid (P (.returned (.func (.func 126) #[] #[.pointer (some ⟨w.heap.size, 0, none⟩)])) (w.alloc (.cells #[.int .u8 x] 5))) := by rw [hP]; exact ⟨rfl, rfl⟩
  clear hP
  go_enter Tryz.func80, Tryz.ntmps80
  go_wp2
  exact HF.out
theorem zbe1_any (w : World) (x y bb : Nat) (hc : w.cell? ⟨bb, 0, none⟩ = some (.int .u8 y)) : Calls Tryz.prog 126 #[.int .u8 x, .pointer (some ⟨bb, 0, none⟩)] w fun e w' => e = .returned (.bool (decide (x = y))) ∧ w = w' := by
  obtain ⟨P, hP⟩ : ∃ P : Ending → World → Prop, P = fun e w' => e = .returned (.bool (decide (x = y))) ∧ w = w' := ⟨_, rfl⟩
  rw [← hP]
  by_cases hxy : x = y
  · have HF : Hid (P (.returned (.bool true)) w) := by rw [hP, decide_eq_true hxy]; exact ⟨rfl, rfl⟩
    subst hxy
    clear hP
    go_enter Tryz.func126, Tryz.ntmps126
    go_wp2
    exact HF.out
  · have HF : Hid (P (.returned (.bool false)) w) := by rw [hP, decide_eq_false hxy]; exact ⟨rfl, rfl⟩
    have hz : ((x : Int) == (y : Int)) = false := by rw [beq_eq_false_iff_ne]; omega
    clear hP
    go_enter Tryz.func126, Tryz.ntmps126
    go_wp2
    exact HF.out
theorem and224 (x : Nat) (h : x < 256) : (bits .and .u8 (x : Int) 224 == 0) = decide (x < 32) := by
  have all : ∀ k : Fin 256, (bits .and .u8 (k.val : Int) 224 == 0) = decide (k.val < 32) := by decide +kernel
  exact all ⟨x, h⟩
theorem zhead1_any (w : World) (x : Nat) (hx : x < 256) : Calls Tryz.prog 81 #[.int .u8 x] w fun e w' => e = .returned (.bool (decide (x < 32))) ∧ w = w' := by
  obtain ⟨P, hP⟩ : ∃ P : Ending → World → Prop, P = fun e w' => e = .returned (.bool (decide (x < 32))) ∧ w = w' := ⟨_, rfl⟩
  rw [← hP]
  have HF : Hid (P (.returned (.bool (decide (x < 32)))) w) := by rw [hP]; exact ⟨rfl, rfl⟩
  have h1 := and224 x hx
  clear hP
  generalize decide (x < 32) = B at *
  go_enter Tryz.func81, Tryz.ntmps81
  go_wp2
  exact HF.out
end Go.Proofs.YtpjnbhflnbhnoaaGreatDoor

namespace Go.Proofs.YtpjnbhflnbhnoaaGreatDoor
open Go.RowKit
set_option linter.unusedVariables false
/-! ### Reading a head, as a function -/
inductive Hz (α : Type) where
  | bad (y : Nat)
  | ok (a : α) (p : Nat)
abbrev HR (α : Type) := List By → Nat → Hz α
def Hz.bind {α β : Type} (r : Hz α) (f : α → Nat → Hz β) : Hz β := match r with | .bad y => .bad y | .ok a p => f a p
def mustH (q : By → Bool) (why : Nat) : HR By := fun b p => match b[p]? with | none => .bad 4 | some x => if q x then .ok x (p + 1) else .bad why
def takeH (n : Nat) : HR (List By) := fun b p => if p + n ≤ b.length then .ok ((b.drop p).take n) (p + n) else .bad 4
variable {D rb : Nat} {va : Option Addr} {vc : Nat} {b : List By} {p : Nat} {w : World}
/-- What a reading call answers: V what it tells. -/
def Yq (D rb : Nat) (va : Option Addr) (vc : Nat) (b : List By) (w : World) {α : Type} (r : Hz α) (V : α → Value → World → Prop) (e : Ending) (w' : World) : Prop :=
  (∃ y, r = .bad y ∧ e = gv y ∧ Fr (fun k => k = rb) w w') ∨ (∃ a p' v, r = .ok a p' ∧ e = .returned v ∧ V a v w' ∧ Yr D rb va vc b p' w' ∧ Fr (fun k => k = rb) w w')
/-- A byte's value. -/
def vB (x : By) (v : Value) (_ : World) : Prop := v = .int .u8 x.toNat
set_option maxHeartbeats 8000000 in
set_option maxRecDepth 100000 in
theorem ymust_be (h : Yr D rb va vc b p w) (why : Nat) (bb one : Nat) (hone256 : one < 256) (hcb : w.cell? ⟨bb, 0, none⟩ = some (.int .u8 one)) (hbr : bb ≠ rb) : Calls Tryz.prog 79 #[.pointer (some ⟨rb, 0, none⟩), .func (.func 126) #[] #[.pointer (some ⟨bb, 0, none⟩)], .int .i64 why] w (Yq D rb va vc b w (mustH (fun x => decide (x.toNat = one)) why b p) vB) := by
  obtain ⟨P, hP⟩ : ∃ P : Ending → World → Prop, P = Yq D rb va vc b w (mustH (fun x => decide (x.toNat = one)) why b p) vB := ⟨_, rfl⟩
  rw [← hP]
  by_cases hlt : p + 1 ≤ b.length
  · obtain ⟨x, hx⟩ : ∃ x, b[p]? = some x := ⟨_, List.getElem?_eq_getElem (by omega)⟩
    have hone : (b.drop p).take 1 = [x] := by
      rw [List.take_one, List.head?_drop, hx]; rfl
    obtain ⟨B, hB⟩ : ∃ B, B = (fun x => decide (x.toNat = one)) x := ⟨_, rfl⟩
    have hm : mustH (fun x => decide (x.toNat = one)) why b p = if B then .ok x (p + 1) else .bad why := by unfold mustH; rw [hx, hB]
    rw [hm] at hP
    have HT : Hid (Calls Tryz.prog 83 #[.pointer (some ⟨rb, 0, none⟩), .int .i64 1] w fun e w1 => ∃ g o k, e = .returned (.slice (some ⟨g, o, none⟩) 1 k) ∧ w1.cell? ⟨g, o, none⟩ = some (.int .u8 x.toNat) ∧ Hid (Calls Tryz.prog 126 #[.int .u8 x.toNat, .pointer (some ⟨bb, 0, none⟩)] w1 fun e w2 => e = .returned (.bool B) ∧ w1 = w2) ∧ Hid ((B = true → P (.returned (.int .u8 x.toNat)) w1) ∧ (B = false → P (gv why) w1))) := by
      show Calls _ _ _ _ _
      refine (ytake_ok h 1 hlt (by omega)).mono ?_
      rintro e w1 ⟨v, rfl, ⟨a, k, rfl, _, _, _, h1⟩, h2, h3⟩
      obtain ⟨g, o, rfl, hg, hr⟩ := h1 (by decide)
      rw [hone] at hr
      have hc := hr 0 (by simp)
      refine ⟨g, o, k, rfl, hc, ?_, fun e => ?_, fun e => ?_⟩
      · show Calls _ _ _ _ _
        rw [hB]
        exact zbe1_any w1 x.toNat one bb (h3.cellv hcb hbr)
      · rw [hP, e]; exact .inr ⟨x, p + 1, _, rfl, rfl, rfl, h2, h3⟩
      · rw [hP, e]; exact .inl ⟨why, rfl, rfl, h3⟩
    have HG : Hid (∀ V, Calls Tryz.prog 125 #[.int .i64 why] V fun e w' => e = gv why ∧ w' = V) := fun V => zgiveUp_any why V
    clear h hP hx hone hB hm
    generalize x.toNat = X at *
    cases B
    · go_enter Tryz.func79, Tryz.ntmps79
      go_wp2_with (first
        | (go_at_call 83; with_reducible refine HT.out.mono ?_; rintro e w1 ⟨g, o, k, rfl, c0, HS, HF⟩)
        | (go_at_call 126; with_reducible refine HS.out.mono ?_; rintro e w2 ⟨rfl, rfl⟩)
        | (go_at_call 125; with_reducible refine (HG.out _).mono ?_; rintro e w3 ⟨rfl, rfl⟩))
      exact ⟨rfl, HF.out.2 (by simp)⟩
    · go_enter Tryz.func79, Tryz.ntmps79
      go_wp2_with (first
        | (go_at_call 83; with_reducible refine HT.out.mono ?_; rintro e w1 ⟨g, o, k, rfl, c0, HS, HF⟩)
        | (go_at_call 126; with_reducible refine HS.out.mono ?_; rintro e w2 ⟨rfl, rfl⟩))
      exact HF.out.1 (by simp)
  · have hm : mustH (fun x => decide (x.toNat = one)) why b p = .bad 4 := by unfold mustH; rw [List.getElem?_eq_none (by omega)]
    rw [hm] at hP
    have HT : Hid (Calls Tryz.prog 83 #[.pointer (some ⟨rb, 0, none⟩), .int .i64 1] w fun e w1 => ∃ ch, e = .panicked ch ∧ Hid (P (.panicked ch) w1)) := by
      show Calls _ _ _ _ _
      refine (ytake_bad h 1 (by omega) (by decide)).mono ?_
      rintro e w1 ⟨rfl, hN⟩
      refine ⟨_, rfl, ?_⟩
      show P _ _
      rw [hP]
      exact .inl ⟨4, rfl, rfl, hN.any⟩
    clear h hP hm
    go_enter Tryz.func79, Tryz.ntmps79
    go_wp2_with (first | (go_at_call 83; with_reducible refine HT.out.mono ?_; rintro e w1 ⟨ch, rfl, HF⟩))
    exact ⟨rfl, HF.out⟩
set_option maxHeartbeats 8000000 in
set_option maxRecDepth 100000 in
theorem ymust_fl (h : Yr D rb va vc b p w) (why : Nat) : Calls Tryz.prog 79 #[.pointer (some ⟨rb, 0, none⟩), .func (.func 81) #[] #[], .int .i64 why] w (Yq D rb va vc b w (mustH (fun x => decide (x.toNat < 32)) why b p) vB) := by
  obtain ⟨P, hP⟩ : ∃ P : Ending → World → Prop, P = Yq D rb va vc b w (mustH (fun x => decide (x.toNat < 32)) why b p) vB := ⟨_, rfl⟩
  rw [← hP]
  by_cases hlt : p + 1 ≤ b.length
  · obtain ⟨x, hx⟩ : ∃ x, b[p]? = some x := ⟨_, List.getElem?_eq_getElem (by omega)⟩
    have hone : (b.drop p).take 1 = [x] := by
      rw [List.take_one, List.head?_drop, hx]; rfl
    obtain ⟨B, hB⟩ : ∃ B, B = (fun x => decide (x.toNat < 32)) x := ⟨_, rfl⟩
    have hm : mustH (fun x => decide (x.toNat < 32)) why b p = if B then .ok x (p + 1) else .bad why := by unfold mustH; rw [hx, hB]
    rw [hm] at hP
    have HT : Hid (Calls Tryz.prog 83 #[.pointer (some ⟨rb, 0, none⟩), .int .i64 1] w fun e w1 => ∃ g o k, e = .returned (.slice (some ⟨g, o, none⟩) 1 k) ∧ w1.cell? ⟨g, o, none⟩ = some (.int .u8 x.toNat) ∧ Hid (Calls Tryz.prog 81 #[.int .u8 x.toNat] w1 fun e w2 => e = .returned (.bool B) ∧ w1 = w2) ∧ Hid ((B = true → P (.returned (.int .u8 x.toNat)) w1) ∧ (B = false → P (gv why) w1))) := by
      show Calls _ _ _ _ _
      refine (ytake_ok h 1 hlt (by omega)).mono ?_
      rintro e w1 ⟨v, rfl, ⟨a, k, rfl, _, _, _, h1⟩, h2, h3⟩
      obtain ⟨g, o, rfl, hg, hr⟩ := h1 (by decide)
      rw [hone] at hr
      have hc := hr 0 (by simp)
      refine ⟨g, o, k, rfl, hc, ?_, fun e => ?_, fun e => ?_⟩
      · show Calls _ _ _ _ _
        rw [hB]
        exact zhead1_any w1 x.toNat x.isLt
      · rw [hP, e]; exact .inr ⟨x, p + 1, _, rfl, rfl, rfl, h2, h3⟩
      · rw [hP, e]; exact .inl ⟨why, rfl, rfl, h3⟩
    have HG : Hid (∀ V, Calls Tryz.prog 125 #[.int .i64 why] V fun e w' => e = gv why ∧ w' = V) := fun V => zgiveUp_any why V
    clear h hP hx hone hB hm
    generalize x.toNat = X at *
    cases B
    · go_enter Tryz.func79, Tryz.ntmps79
      go_wp2_with (first
        | (go_at_call 83; with_reducible refine HT.out.mono ?_; rintro e w1 ⟨g, o, k, rfl, c0, HS, HF⟩)
        | (go_at_call 81; with_reducible refine HS.out.mono ?_; rintro e w2 ⟨rfl, rfl⟩)
        | (go_at_call 125; with_reducible refine (HG.out _).mono ?_; rintro e w3 ⟨rfl, rfl⟩))
      exact ⟨rfl, HF.out.2 (by simp)⟩
    · go_enter Tryz.func79, Tryz.ntmps79
      go_wp2_with (first
        | (go_at_call 83; with_reducible refine HT.out.mono ?_; rintro e w1 ⟨g, o, k, rfl, c0, HS, HF⟩)
        | (go_at_call 81; with_reducible refine HS.out.mono ?_; rintro e w2 ⟨rfl, rfl⟩))
      exact HF.out.1 (by simp)
  · have hm : mustH (fun x => decide (x.toNat < 32)) why b p = .bad 4 := by unfold mustH; rw [List.getElem?_eq_none (by omega)]
    rw [hm] at hP
    have HT : Hid (Calls Tryz.prog 83 #[.pointer (some ⟨rb, 0, none⟩), .int .i64 1] w fun e w1 => ∃ ch, e = .panicked ch ∧ Hid (P (.panicked ch) w1)) := by
      show Calls _ _ _ _ _
      refine (ytake_bad h 1 (by omega) (by decide)).mono ?_
      rintro e w1 ⟨rfl, hN⟩
      refine ⟨_, rfl, ?_⟩
      show P _ _
      rw [hP]
      exact .inl ⟨4, rfl, rfl, hN.any⟩
    clear h hP hm
    go_enter Tryz.func79, Tryz.ntmps79
    go_wp2_with (first | (go_at_call 83; with_reducible refine HT.out.mono ?_; rintro e w1 ⟨ch, rfl, HF⟩))
    exact ⟨rfl, HF.out⟩
end Go.Proofs.YtpjnbhflnbhnoaaGreatDoor

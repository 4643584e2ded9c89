import Derived.Test.YtincbbnppcpfpaaDoorTaq
import Derived.Test.YtincbbnppcpfpaaDoorTar
import Derived.Test.YtincbbnppcpfpaaDoorTao
namespace Go.Proofs.YtincbbnppcpfpaaDoor
open Go.RowKit
set_option linter.unusedVariables false
/-- The bits of b from p on. -/
def bt (b : List By) (p : Nat) : Bt := ⟨8 * b.length - p, le b / 2 ^ p⟩
theorem bt_ok (b : List By) (p : Nat) : (bt b p).Ok := by
  have h := le_lt b
  rw [pow256] at h
  unfold Bt.Ok bt
  simp only
  by_cases hp : p ≤ 8 * b.length
  · rw [Nat.div_lt_iff_lt_mul (Nat.pow_pos (by decide)), ← Nat.pow_add, show 8 * b.length - p + p = 8 * b.length by omega]; exact h
  · rw [Nat.div_eq_of_lt (Nat.lt_of_lt_of_le h (Nat.pow_le_pow_right (by decide) (by omega)))]
    exact Nat.pow_pos (by decide)
theorem bt_x (b : List By) (p : Nat) : (bt b p).x = le b / 2 ^ p := rfl
theorem bt_n (b : List By) (p : Nat) : (bt b p).n = 8 * b.length - p := rfl
theorem bt_rest (b : List By) (p k : Nat) : (⟨(bt b p).n - k, (bt b p).x / 2 ^ k⟩ : Bt) = bt b (p + k) := by
  unfold bt
  simp only [Bt.mk.injEq]
  exact ⟨by omega, by rw [Nat.div_div_eq_div_mul, Nat.pow_add]⟩
/-- What a step gives up with. -/
abbrev gv (y : Nat) : Ending := .panicked [{ v := .iface 24 (.int .i64 y), recovered := false }]
theorem giveUp_any (y : Nat) (w : World) : Calls Tryd.prog 64 #[.int .i64 y] w fun e w' => e = gv y ∧ w' = w := by
  unfold gv
  go_enter Tryd.func64, Tryd.ntmps64
  go_wp2
  exact ⟨rfl, rfl, rfl⟩
/-- A stream that reads: its reader, b from p on. -/
structure Lt (sb rb : Nat) (X : Nat → Prop) (v : Value) (b : List By) (p : Nat) (w : World) : Prop where
  c0 : w.cell? ⟨sb, 0, none⟩ = some (.pointer (some ⟨rb, 0, none⟩))
  ne : sb ≠ rb
  rr : Rr 86 X rb v b p w
  pl : p ≤ 8 * b.length
variable {sb rb : Nat} {X : Nat → Prop} {v : Value} {b : List By} {p : Nat} {w : World}
theorem Lt.nw {w' : World} (h : Lt sb rb X v b p w) (f : Nw w w') : Lt sb rb X v b p w' := ⟨f.cell h.c0, h.ne, h.rr.nw f, h.pl⟩
/-- Only the reader has turned. -/
theorem Lt.go {p' : Nat} {w' : World} (h : Lt sb rb X v b p w) (hr : Rr 86 X rb v b p' w') (f : Fr (fun k => k = rb) w w') (hp : p' ≤ 8 * b.length) : Lt sb rb X v b p' w' := ⟨f.cellv h.c0 h.ne, h.ne, hr, hp⟩
/-- What a reading of a number answers. -/
def Ri (sb rb : Nat) (X : Nat → Prop) (v : Value) (b : List By) (w : World) (r : Rz (Nat × Bt)) (e : Ending) (w' : World) : Prop :=
  (∃ y, r = .bad y ∧ e = gv y ∧ Fr (fun k => k = rb) w w') ∨ (∃ x p', r = .ok (x, bt b p') ∧ e = .returned (.int .i64 (x : Nat)) ∧ Lt sb rb X v b p' w' ∧ Fr (fun k => k = rb) w w')
theorem Ri.isBad {r : Rz (Nat × Bt)} {e : Ending} {w' : World} {y : Nat} (h : Ri sb rb X v b w r e w') (hr : r = .bad y) : e = gv y ∧ Fr (fun k => k = rb) w w' := by
  rcases h with ⟨y', h1, h2⟩ | ⟨x, p', h1, h2⟩
  · rw [hr] at h1; injection h1 with h1; subst h1; exact h2
  · rw [hr] at h1; cases h1
theorem Ri.isOk {r : Rz (Nat × Bt)} {e : Ending} {w' : World} {x : Nat} {t : Bt} (h : Ri sb rb X v b w r e w') (hr : r = .ok (x, t)) : ∃ p', t = bt b p' ∧ e = .returned (.int .i64 (x : Nat)) ∧ Lt sb rb X v b p' w' ∧ Fr (fun k => k = rb) w w' := by
  rcases h with ⟨y', h1, h2⟩ | ⟨x', p', h1, h2⟩
  · rw [hr] at h1; cases h1
  · rw [hr] at h1
    injection h1 with h1
    injection h1 with h1 h3
    subst h1
    exact ⟨p', h3, h2⟩
theorem Ri.later {V : World} {r : Rz (Nat × Bt)} {e : Ending} {w' : World} (h : Ri sb rb X v b V r e w') (k : Fr (fun k => k = rb) w V) : Ri sb rb X v b w r e w' := by
  rcases h with ⟨y', h1, h2, h3⟩ | ⟨x', p', h1, h2, h3, h4⟩
  · exact .inl ⟨y', h1, h2, k.trans h3⟩
  · exact .inr ⟨x', p', h1, h2, h3, k.trans h4⟩
set_option maxHeartbeats 8000000 in
theorem jnumber_any (h : Lt sb rb X v b p w) (n : Nat) (hn : n ≤ 32) (z : Int) (hz : z = n) : Calls Tryd.prog 60 #[.pointer (some ⟨sb, 0, none⟩), .int .i64 z] w (Ri sb rb X v b w (takeR n (bt b p))) := by
  subst hz
  obtain ⟨P, hP⟩ : ∃ P : Ending → World → Prop, P = Ri sb rb X v b w (takeR n (bt b p)) := ⟨_, rfl⟩
  rw [← hP]
  have hT := btake_any h.rr h.pl n
  have hc := h.c0
  by_cases hs : 8 * b.length - p < n
  · have hq : takeR n (bt b p) = .bad 4 := by unfold takeR bt; rw [if_pos hs]
    have hF : takeF (8 * b.length) (le b) p n = (0, 50, p) := by rw [takeF, if_neg (by omega), if_pos (by omega)]
    rw [hF] at hT
    have HT : Hid (Calls Tryd.prog 33 #[.pointer (some ⟨rb, 0, none⟩), .int .i64 n] w fun e w' => e = .returned (.tuple #[.int .u32 0, .int .i64 50]) ∧ Hid (P (gv 4) w')) := hT.mono (fun e w' ⟨h1, h2, h3⟩ => ⟨h1, by
      show P _ _
      rw [hP, hq]; exact .inl ⟨4, rfl, rfl, h3⟩⟩)
    have HG : Hid (∀ V, Calls Tryd.prog 64 #[.int .i64 4] V fun e w' => e = gv 4 ∧ w' = V) := fun V => giveUp_any 4 V
    clear hP hT h hF hq
    go_enter Tryd.func60, Tryd.ntmps60
    go_wp2_with (first | (go_at_call 33; (with_reducible refine HT.out.mono ?_); rintro e w1 ⟨rfl, HF⟩) | (go_at_call 64; (with_reducible refine (HG.out _).mono ?_); rintro e w2 ⟨rfl, rfl⟩))
    exact ⟨rfl, HF.out⟩
  · obtain ⟨x, hx⟩ : ∃ x, x = le b / 2 ^ p % 2 ^ n := ⟨_, rfl⟩
    have hq : takeR n (bt b p) = .ok (x, bt b (p + n)) := by
      rw [← bt_rest, hx]; unfold takeR; rw [if_neg (by unfold bt; exact hs)]; rfl
    have hF : takeF (8 * b.length) (le b) p n = (x, 0, p + n) := by rw [takeF, if_neg (by omega), if_neg (by omega), Int.toNat_natCast, hx]
    rw [hF] at hT
    have HT : Hid (Calls Tryd.prog 33 #[.pointer (some ⟨rb, 0, none⟩), .int .i64 n] w fun e w' => e = .returned (.tuple #[.int .u32 x, .int .i64 0]) ∧ Hid (P (.returned (.int .i64 x)) w')) := hT.mono (fun e w' ⟨h1, h2, h3⟩ => ⟨h1, by
      show P _ _
      rw [hP, hq]; exact .inr ⟨x, p + n, rfl, rfl, h.go h2 h3 (by have := h.pl; omega), h3⟩⟩)
    have hxl : x < 4294967296 := by
      rw [hx]
      exact Nat.lt_of_lt_of_le (Nat.mod_lt _ (Nat.pow_pos (by decide))) (Nat.pow_le_pow_right (n := 2) (by decide) hn)
    clear hP hT h hF hq hx
    go_enter Tryd.func60, Tryd.ntmps60
    go_wp2_with (first | (go_at_call 33; (with_reducible refine HT.out.mono ?_); rintro e w1 ⟨rfl, HF⟩))
    exact HF.out
/-- A code that a block has: none, where no symbol has a word. -/
def CodV (C : Nat → Prop) (u : Value) (ls : List Nat) (w : World) : Prop := (u = .pointer none ∧ sumL ls = 0) ∨ ∃ cb gw gs ws ss, u = .pointer (some ⟨cb, 0, none⟩) ∧ CodeI cb gw gs ls ws ss w ∧ Cod ls ∧ C cb ∧ C gw ∧ C gs
theorem CodV.kept {C Y : Nat → Prop} {u : Value} {ls : List Nat} {w w' : World} (h : CodV C u ls w) (f : Fr Y w w') (hy : ∀ k, C k → ¬ Y k) : CodV C u ls w' := by
  rcases h with h | ⟨cb, gw, gs, ws, ss, h1, h2, h3, h4, h5, h6⟩
  · exact .inl h
  · exact .inr ⟨cb, gw, gs, ws, ss, h1, h2.kept f (hy _ h4) (hy _ h5) (hy _ h6), h3, h4, h5, h6⟩
theorem CodV.mono {C D : Nat → Prop} {u : Value} {ls : List Nat} {w : World} (h : CodV C u ls w) (hy : ∀ k, C k → D k) : CodV D u ls w := by
  rcases h with h | ⟨cb, gw, gs, ws, ss, h1, h2, h3, h4, h5, h6⟩
  · exact .inl h
  · exact .inr ⟨cb, gw, gs, ws, ss, h1, h2, h3, hy _ h4, hy _ h5, hy _ h6⟩
theorem sumL_at (ls : List Nat) (i : Nat) : ls.getD i 0 ≤ sumL ls := by
  induction ls generalizing i with
  | nil => simp
  | cons x r ih =>
    have e : sumL (x :: r) = x + sumL r := rfl
    rw [e]
    cases i with
    | zero => simp
    | succ i => have := ih i; simp only [List.getD_cons_succ]; omega
set_option maxHeartbeats 8000000 in
theorem jword_any {C : Nat → Prop} {u : Value} {ls : List Nat} (h : Lt sb rb X v b p w) (hc : CodV C u ls w) (hr : ¬ C rb) : Calls Tryd.prog 68 #[.pointer (some ⟨sb, 0, none⟩), u] w (Ri sb rb X v b w (symR ls (bt b p))) := by
  obtain ⟨P, hP⟩ : ∃ P : Ending → World → Prop, P = Ri sb rb X v b w (symR ls (bt b p)) := ⟨_, rfl⟩
  rw [← hP]
  have HG : Hid (∀ V y, Calls Tryd.prog 64 #[.int .i64 (y : Nat)] V fun e w' => e = gv y ∧ w' = V) := fun V y => giveUp_any y V
  have HG63 : Hid (∀ V, Calls Tryd.prog 64 #[.int .i64 63] V fun e w' => e = gv 63 ∧ w' = V) := fun V => giveUp_any 63 V
  have HG4 : Hid (∀ V, Calls Tryd.prog 64 #[.int .i64 4] V fun e w' => e = gv 4 ∧ w' = V) := fun V => giveUp_any 4 V
  rcases hc with ⟨rfl, hs⟩ | ⟨cb, gw, gs, ws, ss, rfl, hC, hk, h1, h2, h3⟩
  · have hq : symR ls (bt b p) = .bad 63 := symR_none (fun i hk hi => by have := sumL_at ls i; have := hi.2.1; omega)
    have HF : Hid (P (gv 63) w) := by
      show P _ _
      rw [hP, hq]; exact .inl ⟨63, rfl, rfl, Fr.refl _ _⟩
    have hnil : ∀ w, (binOp BinOp.eql 57 (.pointer none) (.pointer none)).run Tryd.prog w = .ok (.bool true) w := fun _ => by kernel_rfl
    clear hP h hq HG
    go_enter Tryd.func68, Tryd.ntmps68
    go_wp2_with (first | (go_at_call 64; (with_reducible refine (HG63.out _).mono ?_); rintro e w2 ⟨rfl, rfl⟩))
    exact ⟨rfl, HF.out⟩
  · have hR := read_any hC hk h.rr h.pl (fun e => hr (by rw [e]; exact h1)) (fun e => hr (by rw [e]; exact h2)) (fun e => hr (by rw [e]; exact h3))
    have hc0 := h.c0
    have hnil : ∀ w, (binOp BinOp.eql 57 (.pointer (some ⟨cb, 0, none⟩)) (.pointer none)).run Tryd.prog w = .ok (.bool false) w := fun _ => by kernel_rfl
    have HC : Hid (Calls Tryd.prog 81 #[.pointer (some ⟨cb, 0, none⟩), .pointer (some ⟨rb, 0, none⟩)] w fun e w' => (∃ i : Nat, e = .returned (.tuple #[.int .i64 i, .int .i64 0]) ∧ Hid (P (.returned (.int .i64 i)) w')) ∨ (e = .returned (.tuple #[.int .i64 0, .int .i64 50]) ∧ Hid (P (gv 4) w')) ∨ (e = .returned (.tuple #[.int .i64 0, .int .i64 52]) ∧ Hid (P (gv 63) w'))) := hR.mono (fun e w' hh => by
      rcases hh with ⟨i, a1, a2, a3, a4, a5⟩ | ⟨i, a1, a2, a3, a4⟩ | ⟨a1, a2, a3⟩
      · refine .inl ⟨i, a3, ?_⟩
        show P _ _
        rw [hP]
        refine .inr ⟨i, p + ls.getD i 0, ?_, rfl, h.go a4 a5 (by have := h.pl; omega), a5⟩
        rw [← bt_x] at a1
        rw [symR_hit hk a1, if_neg (by rw [bt_n]; omega), bt_rest]
      · refine .inr (.inl ⟨a3, ?_⟩)
        show P _ _
        rw [hP]
        refine .inl ⟨4, ?_, rfl, a4.any⟩
        rw [← bt_x] at a1
        rw [symR_hit hk a1, if_pos (by rw [bt_n]; exact a2)]
      · refine .inr (.inr ⟨a2, ?_⟩)
        show P _ _
        rw [hP]
        rw [← bt_x] at a1
        exact .inl ⟨63, symR_none (fun i _ hi => a1.none hk i hi), rfl, a3.any⟩)
    clear hP h hR hC hk HG
    go_enter Tryd.func68, Tryd.ntmps68
    go_wp2_with fail
    go_at_call 81
    with_reducible refine HC.out.mono ?_
    rintro e w1 (⟨i, rfl, HF⟩ | ⟨rfl, HF⟩ | ⟨rfl, HF⟩)
    · go_wp2_with fail
      exact HF.out
    · go_wp2_with (first | (go_at_call 64; (with_reducible refine (HG4.out _).mono ?_); rintro e w2 ⟨rfl, rfl⟩))
      exact ⟨rfl, HF.out⟩
    · go_wp2_with (first | (go_at_call 64; (with_reducible refine (HG63.out _).mono ?_); rintro e w2 ⟨rfl, rfl⟩))
      exact ⟨rfl, HF.out⟩
end Go.Proofs.YtincbbnppcpfpaaDoor

import Derived.Test.YtoegbaenheeogaaNfT
namespace Go.Proofs.Ytoegbaenheeogaa
open Go.RowKit
set_option linter.unusedVariables false
/-! ### The document's Binary -/
def sg (bl : Bool) : Int := if bl then -1 else 0
def fl (bl : Bool) : By := if bl then 255#8 else 0#8
/-- Bytes as a number with the sign ahead of them. -/
def tv (bl : Bool) (l : List By) : Int := vb (sg bl) l
theorem tv_fill (bl : Bool) (l : List By) : tv bl (fl bl :: l) = tv bl l := by
  unfold tv
  rw [vb_cons]
  cases bl <;> rfl
def below (x : By) : Bool := decide (64 ≤ x.toNat % 128)
def first (x : By) : By := if below x then x else x - 128#8
theorem first_toNat (x : By) (h : 128 ≤ x.toNat) : (first x).toNat = if below x then x.toNat else x.toNat - 128 := by
  unfold first
  have hx := x.isLt
  split
  · rfl
  · rw [BitVec.toNat_sub]
    have : (128#8 : By).toNat = 128 := rfl
    omega
theorem tv_first (x : By) (l : List By) (h : 128 ≤ x.toNat) : tv (below x) (first x :: l) = binV (x :: l) := by
  have hx := x.isLt
  show vb (sg (below x)) (first x :: l) = vb (fb x) l
  rw [vb_cons, first_toNat x h]
  congr 1
  have hb : below x = decide (64 ≤ x.toNat % 128) := rfl
  unfold fb sg
  cases hq : below x with
  | true =>
    rw [hq] at hb
    have := of_decide_eq_true hb.symm
    rw [if_pos rfl, if_pos rfl, if_pos (by omega)]; omega
  | false =>
    rw [hq] at hb
    have := of_decide_eq_false hb.symm
    rw [if_neg (by decide), if_neg (by decide), if_neg (by omega)]; omega
theorem pow_big2 (k : Nat) (h : 8 ≤ k) : (18446744073709551616 : Int) ≤ 256 ^ k := by
  have e : (256 : Int) ^ k = 256 ^ 8 * 256 ^ (k - 8) := by rw [← Int.pow_add]; congr 1; omega
  have h0 := pow_p (k - 8)
  rw [e, show (256 : Int) ^ 8 = 18446744073709551616 from rfl]
  have : (18446744073709551616 : Int) * 1 ≤ 18446744073709551616 * 256 ^ (k - 8) := Int.mul_le_mul_of_nonneg_left (by omega) (by omega)
  omega
theorem out_mul (m : Int) (l : List By) (hl : 8 ≤ l.length) (h : m ≤ -2 ∨ 1 ≤ m) : inI (vb m l) = false := by
  have hp := pow_big2 l.length hl
  obtain ⟨h1, h2⟩ := vb_lo l
  rw [vb_split]
  generalize (256 : Int) ^ l.length = M at *
  generalize vb 0 l = v at *
  unfold inI
  apply decide_eq_false
  rcases h with h | h
  · have := Int.mul_le_mul_of_nonneg_right h (show (0 : Int) ≤ M by omega)
    omega
  · have := Int.mul_le_mul_of_nonneg_right h (show (0 : Int) ≤ M by omega)
    omega
theorem tv_bad (bl : Bool) (x : By) (l : List By) (hl : 8 ≤ l.length) (h : x ≠ fl bl) : inI (tv bl (x :: l)) = false := by
  have hx := x.isLt
  unfold tv
  rw [vb_cons]
  apply out_mul _ _ hl
  cases bl with
  | true =>
    left
    have : x.toNat ≠ 255 := fun e => h (BitVec.eq_of_toNat_eq (by rw [e]; rfl))
    have : sg true = -1 := rfl
    omega
  | false =>
    right
    have : x.toNat ≠ 0 := fun e => h (BitVec.eq_of_toNat_eq (by rw [e]; rfl))
    have : sg false = 0 := rfl
    omega
theorem tv_eight (bl : Bool) (x : By) (l : List By) (hl : l.length = 7) : (inI (tv bl (x :: l)) = true ↔ decide (128 ≤ x.toNat) = bl) ∧ (decide (128 ≤ x.toNat) = bl → IntKind.i64.wrap (vb 0 (x :: l)) = tv bl (x :: l)) ∧ 0 ≤ vb 0 (x :: l) ∧ vb 0 (x :: l) < 18446744073709551616 := by
  have hx := x.isLt
  unfold tv
  obtain ⟨h1, h2⟩ := vb_lo l
  obtain ⟨h3, h4⟩ := vb_lo (x :: l)
  rw [List.length_cons, hl] at h4
  rw [hl] at h2
  have e8 : (256 : Int) ^ (7 + 1) = 18446744073709551616 := by decide
  have e7 : (256 : Int) ^ 7 = 72057594037927936 := by decide
  rw [e8] at h4
  rw [e7] at h2
  have q1 := vb_split (sg bl * 256 + (x.toNat : Int)) l
  have q2 := vb_split (0 * 256 + (x.toNat : Int)) l
  rw [← vb_cons, hl, e7] at q1 q2
  rw [q2] at h3 h4
  rw [q1, q2]
  generalize vb 0 l = v at *
  rw [IntKind.wrap_i64]
  unfold inI
  cases bl with
  | true =>
    have s1 : sg true = -1 := rfl
    rw [s1]
    refine ⟨⟨fun h => decide_eq_true ?_, fun h => decide_eq_true ?_⟩, fun h => ?_, h3, h4⟩
    · have := of_decide_eq_true h; omega
    · have := of_decide_eq_true h; omega
    · have := of_decide_eq_true h; omega
  | false =>
    have s1 : sg false = 0 := rfl
    rw [s1]
    refine ⟨⟨fun h => decide_eq_false ?_, fun h => decide_eq_true ?_⟩, fun h => ?_, h3, h4⟩
    · have := of_decide_eq_true h; omega
    · have := of_decide_eq_false h; omega
    · have := of_decide_eq_false h; omega
/-- append, folded behind a name. -/
def appF (tys : Array TypeId) (ty : TypeId) (args : Array Value) : Sem Value := Builtin.append_ tys ty args
theorem appF_fold (tys : Array TypeId) (ty : TypeId) (args : Array Value) : Builtin.append_ tys ty args = appF tys ty args := rfl
theorem lit1B (w : World) (x : By) (z : Int) (hz : z = x.toNat) : Ow w.heap.size (.slice (some ⟨w.heap.size, 0, none⟩) 1 1) [x] (w.alloc (.cells #[.int .u8 z] 5)) := by
  subst hz
  refine ⟨[x], rfl, rfl, by simp, by simp, ?_⟩
  show (w.heap.push _)[w.heap.size]? = _
  simp
/-- One byte appended to bytes of one's own. -/
theorem push1 (w V : World) (a : Option Addr) (n c : Nat) (l : List By) (h : Mine (fun k => k < w.heap.size) (.slice a n c) l V) (hV : Nw w V) (hl : l.length ≤ 140737488351232) (x : By) (z : Int) (hz : z = x.toNat) :
    ∃ a' n' c' W, (∀ ty, (appF #[52, 52] ty #[.slice a n c, .slice (some ⟨V.heap.size, 0, none⟩) 1 1]).run Try.prog (V.alloc (.cells #[.int .u8 z] 5)) = .ok (.slice a' n' c') W) ∧ Mine (fun k => k < w.heap.size) (.slice a' n' c') (l ++ [x]) W ∧ Nw w W := by
  have hN : Nw V (V.alloc (.cells #[.int .u8 z] 5)) := (Fr.refl _ _).alloc _
  obtain ⟨v', W, k1, k2, k3⟩ := mine_app (fun k => k < w.heap.size) (V.alloc (.cells #[.int .u8 z] 5)) (fun k hk => Nat.lt_of_lt_of_le hk (hV.trans hN).size) _ l (h.nw hN) _ [x] (.inr ⟨_, fun h => h, (lit1B V x z hz).slb⟩) (by simp; omega)
  have hf := k2.old.form
  obtain ⟨a', c', e, _, _⟩ := hf
  subst e
  refine ⟨a', _, c', W, k1, k2, Fr.then (hV.trans hN) k3 (fun i hi => .inr (by omega))⟩
/-- One byte ahead of bytes. -/
theorem push0 (V : World) (a : Option Addr) (n c : Nat) (l : List By) (h : Sl (fun _ => False) (.slice a n c) l V) (hl : l.length ≤ 8) (x : By) (z : Int) (hz : z = x.toNat) :
    ∃ a' n' c' W, (∀ ty, (appF #[52, 52] ty #[.slice (some ⟨V.heap.size, 0, none⟩) 1 1, .slice a n c]).run Try.prog (V.alloc (.cells #[.int .u8 z] 5)) = .ok (.slice a' n' c') W) ∧ Sl (fun _ => False) (.slice a' n' c') (x :: l) W ∧ Nw V W := by
  have hN : Nw V (V.alloc (.cells #[.int .u8 z] 5)) := (Fr.refl _ _).alloc _
  obtain ⟨v', g', W, k1, k2, k3, k4⟩ := app_any _ _ _ [x] (lit1B V x z hz) _ l (h.nw hN) (by simp; omega)
  obtain ⟨xs, e, _⟩ := id k2
  subst e
  exact ⟨_, _, _, W, k1, .inr ⟨g', fun h => h, k2.slb⟩, Fr.then hN k3 (fun i hi => .inr (by subst hi; exact Nat.le_refl _))⟩
end Go.Proofs.Ytoegbaenheeogaa

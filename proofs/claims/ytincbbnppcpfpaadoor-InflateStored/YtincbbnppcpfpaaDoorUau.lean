import Derived.Test.YtincbbnppcpfpaaDoorUat
import Derived.Test.YtincbbnppcpfpaaDoorUai
namespace Go.Proofs.YtincbbnppcpfpaaDoor
open Go.RowKit
set_option linter.unusedVariables false
/-! ### Writers -/
/-- Nil, or a slice of one's own in a block that is known. -/
def Og (og : Option Nat) (v : Value) (l : List By) (w : World) : Prop := match og with | none => v = .slice none 0 0 ∧ l = [] | some g => Ow g v l w
theorem Og.kept {og : Option Nat} {v : Value} {l : List By} {w w' : World} {X : Nat → Prop} (h : Og og v l w) (f : Fr X w w') (hx : ∀ g, og = some g → ¬ X g) : Og og v l w' := by
  cases og with
  | none => exact h
  | some g => exact Ow.kept h f (hx g rfl)
theorem Og.nw {og : Option Nat} {v : Value} {l : List By} {w w' : World} (h : Og og v l w) (f : Nw w w') : Og og v l w' := h.kept f (fun _ _ h => h)
theorem Og.lt {og : Option Nat} {v : Value} {l : List By} {w : World} (h : Og og v l w) (g : Nat) (hg : og = some g) : g < w.heap.size := by
  subst hg; exact Ow.lt h
theorem Og.sl {og : Option Nat} {v : Value} {l : List By} {w : World} (h : Og og v l w) : Sl (fun k => og ≠ some k) v l w := by
  cases og with
  | none => exact .inl ⟨none, h.1, h.2⟩
  | some g => exact .inr ⟨g, fun hx => hx rfl, Ow.slb h⟩
theorem Og.form {og : Option Nat} {v : Value} {l : List By} {w : World} (h : Og og v l w) : ∃ a c, v = .slice a l.length c ∧ l.length ≤ c ∧ c < 9223372036854775808 := h.sl.form
theorem og_app (w : World) (og : Option Nat) (v : Value) (l : List By) (h : Og og v l w) (x : Value) (m : List By) (hx : Sl (fun _ => False) x m w) (hb : l.length + m.length ≤ 200000000000000) :
    ∃ v' og' W, (∀ ty, (Builtin.append_ #[22, 22] ty #[v, x]).run Tryd.prog w = .ok v' W) ∧ Og og' v' (l ++ m) W ∧ Fr (fun k => og = some k) w W ∧ Went og og' w := by
  cases og with
  | none =>
    obtain ⟨rfl, rfl⟩ := h
    by_cases hm : m = []
    · subst hm
      refine ⟨.slice none 0 0, none, w, ?_, ⟨rfl, rfl⟩, Fr.refl _ _, .inl rfl⟩
      rcases hx with ⟨a, rfl, _⟩ | ⟨g, _, o, c, rfl, _, _, _⟩
      · exact app_none w _ a rfl
      · exact app_none' w g o c
    · obtain ⟨v', W, k1, k2, k3⟩ := app_nil w x m hx (by simpa using hb) hm
      exact ⟨v', some w.heap.size, W, k1, by rw [List.nil_append]; exact k2, k3.any, .inr ⟨_, rfl, Nat.le_refl _⟩⟩
  | some g =>
    obtain ⟨v', g', W, k1, k2, k3, k4⟩ := app_any w g v l h x m hx hb
    refine ⟨v', some g', W, k1, k2, k3.mono (fun i hi => .inl (by rw [hi])), ?_⟩
    rcases k4 with rfl | k4
    · exact .inl rfl
    · exact .inr ⟨_, rfl, k4⟩
/-- One byte more. -/
theorem og_step (w : World) (og : Option Nat) (v : Value) (l : List By) (h : Og og v l w) (hs : l.length ≤ 150000000000000) (x : By) (z : Int) (hz : z = x.toNat) :
    ∃ v' og' W, (∀ ty, (Builtin.append_ #[22, 22] ty #[v, .slice (some ⟨w.heap.size, 0, none⟩) 1 1]).run Tryd.prog (w.alloc (.cells #[.int .u8 z] 5)) = .ok v' W) ∧ Og og' v' (l ++ [x]) W ∧ Fr (fun k => og = some k) w W ∧ Went og og' w := by
  have hN : Nw w (w.alloc (.cells #[.int .u8 z] 5)) := (Fr.refl _ _).alloc _
  obtain ⟨v', og', W, k1, k2, k3, k4⟩ := og_app _ og v l (h.nw hN) _ _ (one_byte' w x z hz) (by simp; omega)
  exact ⟨v', og', W, k1, k2, hN.any.trans k3, (Went.refl og w).trans k4 hN.size⟩
variable {wb : Nat} {og : Option Nat} {V n : Nat} {w : World}
/-! The bytes of what was written. -/
theorem lows_full (V n : Nat) (h : V < 2 ^ n) : le (lows V ((n + 7) / 8)) = V := by
  rw [le_lows, pow256, Nat.mod_eq_of_lt (Nat.lt_of_lt_of_le h (Nat.pow_le_pow_right (by decide) (by omega)))]
/-- A byte begins: one of zeros is put there. -/
theorem lows_zero (V n : Nat) (h : V < 2 ^ n) (h8 : n % 8 = 0) : lows V ((n + 7) / 8) ++ [0#8] = lows V (n / 8 + 1) := by
  rw [lows_succ, show (n + 7) / 8 = n / 8 by omega]
  congr 2
  rw [Nat.div_eq_of_lt (by rw [pow256, show 8 * (n / 8) = n by omega]; exact h)]
theorem lows_some (n : Nat) (h8 : n % 8 ≠ 0) : (n + 7) / 8 = n / 8 + 1 := by omega
/-- Bits are put into the last byte. -/
theorem lows_put (V n v k : Nat) (h : V < 2 ^ n) (hk : k ≤ 8 - n % 8) (hk0 : 0 < k) (y : By) (hy : y.toNat = V / 256 ^ (n / 8) % 256 + (v % 2 ^ k) * 2 ^ (n % 8)) : (lows V (n / 8 + 1)).set (n / 8) y = lows (V + (v % 2 ^ k) * 2 ^ n) ((n + k + 7) / 8) ∧ V + (v % 2 ^ k) * 2 ^ n < 2 ^ (n + k) := by
  have hlt : V + (v % 2 ^ k) * 2 ^ n < 2 ^ (n + k) := by
    have h1 : v % 2 ^ k < 2 ^ k := Nat.mod_lt _ (Nat.pow_pos (by decide))
    have h2 : (v % 2 ^ k + 1) * 2 ^ n ≤ 2 ^ k * 2 ^ n := Nat.mul_le_mul_right _ h1
    rw [Nat.pow_add, Nat.mul_comm (2 ^ n)]
    rw [Nat.add_mul] at h2
    omega
  refine ⟨?_, hlt⟩
  have hJ : (n + k + 7) / 8 = n / 8 + 1 := by omega
  rw [hJ]
  have e1 : (lows V (n / 8 + 1)).set (n / 8) y = lows V (n / 8) ++ [y] := by
    rw [lows_succ]
    have hl := lows_length V (n / 8)
    conv => lhs; rw [List.set_append_right _ _ (by omega)]
    rw [hl, Nat.sub_self]; rfl
  rw [e1]
  apply le_inj
  · rw [List.length_append, lows_length, lows_length]; rfl
  · rw [le_append, le_lows, lows_length]
    simp only [le, Nat.mul_zero, Nat.add_zero]
    have h3 : 2 ^ (n + k) ≤ 2 ^ (8 * (n / 8 + 1)) := Nat.pow_le_pow_right (by decide) (by omega)
    have e3 := lows_full (V + (v % 2 ^ k) * 2 ^ n) (n + k) hlt
    rw [hJ] at e3
    rw [e3, hy]
    have h4 : V / 256 ^ (n / 8) < 256 := by
      have h5 : V < 256 ^ (n / 8) * 256 := by
        refine Nat.lt_of_lt_of_le h ?_
        rw [pow256, show (256 : Nat) = 2 ^ 8 from rfl, ← Nat.pow_add]
        exact Nat.pow_le_pow_right (by decide) (by omega)
      exact (Nat.div_lt_iff_lt_mul (Nat.pow_pos (by decide))).2 (by rw [Nat.mul_comm]; exact h5)
    rw [Nat.mod_eq_of_lt h4, Nat.mul_add, ← Nat.add_assoc, Nat.mod_add_div]
    congr 1
    rw [Nat.mul_comm, Nat.mul_assoc, pow256, ← Nat.pow_add]
    congr 2
    omega
theorem or_byte (V n v k j : Nat) (h : V < 2 ^ n) (hk : k = min (8 - n % 8) j) (hv : v < 2 ^ j) (hv2 : v < 4294967296) : bits .or .u8 ((V / 256 ^ (n / 8) % 256 : Nat) : Int) ((v * 2 ^ (n % 8) % 256 : Nat) : Int) = ((V / 256 ^ (n / 8) % 256 + (v % 2 ^ k) * 2 ^ (n % 8) : Nat) : Int) ∧ V / 256 ^ (n / 8) % 256 + (v % 2 ^ k) * 2 ^ (n % 8) < 256 := by
  have hr : n % 8 < 8 := Nat.mod_lt _ (by decide)
  obtain ⟨r, hr'⟩ : ∃ r, r = n % 8 := ⟨_, rfl⟩
  rw [← hr'] at hr hk ⊢
  have hx : V / 256 ^ (n / 8) < 2 ^ r := by
    apply (Nat.div_lt_iff_lt_mul (Nat.pow_pos (by decide))).2
    rw [pow256, ← Nat.pow_add, hr', show n % 8 + 8 * (n / 8) = n by omega]
    exact h
  have h256 : 2 ^ r ≤ 256 := by
    have : 2 ^ r ≤ 2 ^ 8 := Nat.pow_le_pow_right (by decide) (by omega)
    exact this
  rw [Nat.mod_eq_of_lt (show V / 256 ^ (n / 8) < 256 by omega)]
  generalize V / 256 ^ (n / 8) = x at *
  have e1 : v * 2 ^ r % 256 = (v % 2 ^ k) * 2 ^ r := by
    have e2 : (256 : Nat) = 2 ^ (8 - r) * 2 ^ r := by rw [← Nat.pow_add, show 8 - r + r = 8 by omega]
    rw [e2, Nat.mul_mod_mul_right]
    congr 1
    by_cases hj : 8 - r ≤ j
    · rw [hk, Nat.min_eq_left hj]
    · rw [hk, Nat.min_eq_right (by omega), Nat.mod_eq_of_lt hv, Nat.mod_eq_of_lt (Nat.lt_of_lt_of_le hv (Nat.pow_le_pow_right (by decide) (by omega)))]
  have h2 : v * 2 ^ r % 256 < 256 := Nat.mod_lt _ (by decide)
  rw [e1] at h2 ⊢
  have h3 : (v % 2 ^ k) * 2 ^ r % 2 ^ r = 0 := Nat.mul_mod_left _ _
  have hj := nat_join r _ x h3 hx
  have hlt : x + (v % 2 ^ k) * 2 ^ r < 256 := by
    have h4 : (x ||| (v % 2 ^ k) * 2 ^ r) < 2 ^ 8 := Nat.or_lt_two_pow (by omega) h2
    rw [Nat.or_comm, hj] at h4
    omega
  refine ⟨?_, hlt⟩
  rw [u8_or _ _ (by omega) (by omega) (by omega) (by omega), Int.toNat_natCast, Int.toNat_natCast, Nat.or_comm, hj]
  congr 1; omega
end Go.Proofs.YtincbbnppcpfpaaDoor

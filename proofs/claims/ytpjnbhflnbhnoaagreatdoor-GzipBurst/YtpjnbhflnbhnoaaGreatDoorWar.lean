import Derived.Test.YtpjnbhflnbhnoaaGreatDoorWap
import Derived.Test.YtpjnbhflnbhnoaaGreatDoorWaq
import Derived.Test.YtpjnbhflnbhnoaaGreatDoorWal
namespace Go.Proofs.YtpjnbhflnbhnoaaGreatDoor
open Go.RowKit
set_option linter.unusedVariables false
/-! ### Writers -/
/-- Nil, or a slice of one's own in a block that is known. -/
def Og (og : Option Nat) (v : Value) (l : List By) (w : World) : Prop := match og with | none => v = .slice none 0 0 ∧ l = [] | some g => Ow g v l w
theorem Og.kept {og : Option Nat} {v : Value} {l : List By} {w w' : World} {X : Nat → Prop} (h : Og og v l w) (f : Fr X w w') (hx : ∀ g, og = some g → ¬ X g) : Og og v l w' := by
  cases og with
  | none => exact h
  | some g => exact Ow.kept h f (hx g rfl)
theorem Og.nw {og : Option Nat} {v : Value} {l : List By} {w w' : World} (h : Og og v l w) (f : Nw w w') : Og og v l w' := h.kept f (fun _ _ h => h)
theorem Og.lt {og : Option Nat} {v : Value} {l : List By} {w : World} (h : Og og v l w) (g : Nat) (hg : og = some g) : g < w.heap.size := by
  subst hg; exact Ow.lt h
theorem Og.sl {og : Option Nat} {v : Value} {l : List By} {w : World} (h : Og og v l w) : Sl (fun k => og ≠ some k) v l w := by
  cases og with
  | none => exact .inl ⟨none, h.1, h.2⟩
  | some g => exact .inr ⟨g, fun hx => hx rfl, Ow.slb h⟩
theorem Og.form {og : Option Nat} {v : Value} {l : List By} {w : World} (h : Og og v l w) : ∃ a c, v = .slice a l.length c ∧ l.length ≤ c ∧ c < 9223372036854775808 := h.sl.form
theorem og_app (w : World) (og : Option Nat) (v : Value) (l : List By) (h : Og og v l w) (x : Value) (m : List By) (hx : Sl (fun _ => False) x m w) (hb : l.length + m.length ≤ 200000000000000) :
    ∃ v' og' W, (∀ ty, (Builtin.append_ #[22, 22] ty #[v, x]).run Tryz.prog w = .ok v' W) ∧ Og og' v' (l ++ m) W ∧ Fr (fun k => og = some k) w W ∧ Went og og' w := by
  cases og with
  | none =>
    obtain ⟨rfl, rfl⟩ := h
    by_cases hm : m = []
    · subst hm
      refine ⟨.slice none 0 0, none, w, ?_, ⟨rfl, rfl⟩, Fr.refl _ _, .inl rfl⟩
      rcases hx with ⟨a, rfl, _⟩ | ⟨g, _, o, c, rfl, _, _, _⟩
      · exact app_none w _ a rfl
      · exact app_none' w g o c
    · obtain ⟨v', W, k1, k2, k3⟩ := app_nil w x m hx (by simpa using hb) hm
      exact ⟨v', some w.heap.size, W, k1, by rw [List.nil_append]; exact k2, k3.any, .inr ⟨_, rfl, Nat.le_refl _⟩⟩
  | some g =>
    obtain ⟨v', g', W, k1, k2, k3, k4⟩ := app_any w g v l h x m hx hb
    refine ⟨v', some g', W, k1, k2, k3.mono (fun i hi => .inl (by rw [hi])), ?_⟩
    rcases k4 with rfl | k4
    · exact .inl rfl
    · exact .inr ⟨_, rfl, k4⟩
/-- One byte more. -/
theorem og_step (w : World) (og : Option Nat) (v : Value) (l : List By) (h : Og og v l w) (hs : l.length ≤ 150000000000000) (x : By) (z : Int) (hz : z = x.toNat) :
    ∃ v' og' W, (∀ ty, (Builtin.append_ #[22, 22] ty #[v, .slice (some ⟨w.heap.size, 0, none⟩) 1 1]).run Tryz.prog (w.alloc (.cells #[.int .u8 z] 5)) = .ok v' W) ∧ Og og' v' (l ++ [x]) W ∧ Fr (fun k => og = some k) w W ∧ Went og og' w := by
  have hN : Nw w (w.alloc (.cells #[.int .u8 z] 5)) := (Fr.refl _ _).alloc _
  obtain ⟨v', og', W, k1, k2, k3, k4⟩ := og_app _ og v l (h.nw hN) _ _ (one_byte' w x z hz) (by simp; omega)
  exact ⟨v', og', W, k1, k2, hN.any.trans k3, (Went.refl og w).trans k4 hN.size⟩
/-- The program's writer in memory: it wrote n bits, V as a number. -/
structure Wr (wb : Nat) (og : Option Nat) (V n : Nat) (w : World) : Prop where
  row : ∃ vb, w.heap[wb]? = some (.cells #[vb, .int .i64 n] 64) ∧ Og og vb (lows V ((n + 7) / 8)) w
  ne : og ≠ some wb
  vl : V < 2 ^ n
variable {wb : Nat} {og : Option Nat} {V n : Nat} {w : World}
theorem Wr.lt (h : Wr wb og V n w) : wb < w.heap.size := by obtain ⟨_, h1, _⟩ := h.row; exact (Array.getElem?_eq_some_iff.1 h1).1
theorem Wr.olt (h : Wr wb og V n w) (g : Nat) (hg : og = some g) : g < w.heap.size := by obtain ⟨_, _, h2⟩ := h.row; exact h2.lt g hg
theorem Wr.kept {w' : World} {X : Nat → Prop} (h : Wr wb og V n w) (f : Fr X w w') (hr : ¬ X wb) (hx : ∀ g, og = some g → ¬ X g) : Wr wb og V n w' := by
  obtain ⟨vb, h1, h2⟩ := h.row
  exact ⟨⟨vb, row_kept h1 f hr, h2.kept f hx⟩, h.ne, h.vl⟩
theorem Wr.nw {w' : World} (h : Wr wb og V n w) (f : Nw w w') : Wr wb og V n w' := h.kept f (fun h => h) (fun _ _ h => h)
/-! The bytes of what was written. -/
theorem lows_full (V n : Nat) (h : V < 2 ^ n) : le (lows V ((n + 7) / 8)) = V := by
  rw [le_lows, pow256, Nat.mod_eq_of_lt (Nat.lt_of_lt_of_le h (Nat.pow_le_pow_right (by decide) (by omega)))]
/-- A byte begins: one of zeros is put there. -/
theorem lows_zero (V n : Nat) (h : V < 2 ^ n) (h8 : n % 8 = 0) : lows V ((n + 7) / 8) ++ [0#8] = lows V (n / 8 + 1) := by
  rw [lows_succ, show (n + 7) / 8 = n / 8 by omega]
  congr 2
  rw [Nat.div_eq_of_lt (by rw [pow256, show 8 * (n / 8) = n by omega]; exact h)]
theorem lows_some (n : Nat) (h8 : n % 8 ≠ 0) : (n + 7) / 8 = n / 8 + 1 := by omega
/-- Bits are put into the last byte. -/
theorem lows_put (V n v k : Nat) (h : V < 2 ^ n) (hk : k ≤ 8 - n % 8) (hk0 : 0 < k) (y : By) (hy : y.toNat = V / 256 ^ (n / 8) % 256 + (v % 2 ^ k) * 2 ^ (n % 8)) : (lows V (n / 8 + 1)).set (n / 8) y = lows (V + (v % 2 ^ k) * 2 ^ n) ((n + k + 7) / 8) ∧ V + (v % 2 ^ k) * 2 ^ n < 2 ^ (n + k) := by
  have hlt : V + (v % 2 ^ k) * 2 ^ n < 2 ^ (n + k) := by
    have h1 : v % 2 ^ k < 2 ^ k := Nat.mod_lt _ (Nat.pow_pos (by decide))
    have h2 : (v % 2 ^ k + 1) * 2 ^ n ≤ 2 ^ k * 2 ^ n := Nat.mul_le_mul_right _ h1
    rw [Nat.pow_add, Nat.mul_comm (2 ^ n)]
    rw [Nat.add_mul] at h2
    omega
  refine ⟨?_, hlt⟩
  have hJ : (n + k + 7) / 8 = n / 8 + 1 := by omega
  rw [hJ]
  have e1 : (lows V (n / 8 + 1)).set (n / 8) y = lows V (n / 8) ++ [y] := by
    rw [lows_succ]
    have hl := lows_length V (n / 8)
    conv => lhs; rw [List.set_append_right _ _ (by omega)]
    rw [hl, Nat.sub_self]; rfl
  rw [e1]
  apply le_inj
  · rw [List.length_append, lows_length, lows_length]; rfl
  · rw [le_append, le_lows, lows_length]
    simp only [le, Nat.mul_zero, Nat.add_zero]
    have h3 : 2 ^ (n + k) ≤ 2 ^ (8 * (n / 8 + 1)) := Nat.pow_le_pow_right (by decide) (by omega)
    have e3 := lows_full (V + (v % 2 ^ k) * 2 ^ n) (n + k) hlt
    rw [hJ] at e3
    rw [e3, hy]
    have h4 : V / 256 ^ (n / 8) < 256 := by
      have h5 : V < 256 ^ (n / 8) * 256 := by
        refine Nat.lt_of_lt_of_le h ?_
        rw [pow256, show (256 : Nat) = 2 ^ 8 from rfl, ← Nat.pow_add]
        exact Nat.pow_le_pow_right (by decide) (by omega)
      exact (Nat.div_lt_iff_lt_mul (Nat.pow_pos (by decide))).2 (by rw [Nat.mul_comm]; exact h5)
    rw [Nat.mod_eq_of_lt h4, Nat.mul_add, ← Nat.add_assoc, Nat.mod_add_div]
    congr 1
    rw [Nat.mul_comm, Nat.mul_assoc, pow256, ← Nat.pow_add]
    congr 2
    omega
theorem or_byte (V n v k j : Nat) (h : V < 2 ^ n) (hk : k = min (8 - n % 8) j) (hv : v < 2 ^ j) (hv2 : v < 4294967296) : bits .or .u8 ((V / 256 ^ (n / 8) % 256 : Nat) : Int) ((v * 2 ^ (n % 8) % 256 : Nat) : Int) = ((V / 256 ^ (n / 8) % 256 + (v % 2 ^ k) * 2 ^ (n % 8) : Nat) : Int) ∧ V / 256 ^ (n / 8) % 256 + (v % 2 ^ k) * 2 ^ (n % 8) < 256 := by
  have hr : n % 8 < 8 := Nat.mod_lt _ (by decide)
  obtain ⟨r, hr'⟩ : ∃ r, r = n % 8 := ⟨_, rfl⟩
  rw [← hr'] at hr hk ⊢
  have hx : V / 256 ^ (n / 8) < 2 ^ r := by
    apply (Nat.div_lt_iff_lt_mul (Nat.pow_pos (by decide))).2
    rw [pow256, ← Nat.pow_add, hr', show n % 8 + 8 * (n / 8) = n by omega]
    exact h
  have h256 : 2 ^ r ≤ 256 := by
    have : 2 ^ r ≤ 2 ^ 8 := Nat.pow_le_pow_right (by decide) (by omega)
    exact this
  rw [Nat.mod_eq_of_lt (show V / 256 ^ (n / 8) < 256 by omega)]
  generalize V / 256 ^ (n / 8) = x at *
  have e1 : v * 2 ^ r % 256 = (v % 2 ^ k) * 2 ^ r := by
    have e2 : (256 : Nat) = 2 ^ (8 - r) * 2 ^ r := by rw [← Nat.pow_add, show 8 - r + r = 8 by omega]
    rw [e2, Nat.mul_mod_mul_right]
    congr 1
    by_cases hj : 8 - r ≤ j
    · rw [hk, Nat.min_eq_left hj]
    · rw [hk, Nat.min_eq_right (by omega), Nat.mod_eq_of_lt hv, Nat.mod_eq_of_lt (Nat.lt_of_lt_of_le hv (Nat.pow_le_pow_right (by decide) (by omega)))]
  have h2 : v * 2 ^ r % 256 < 256 := Nat.mod_lt _ (by decide)
  rw [e1] at h2 ⊢
  have h3 : (v % 2 ^ k) * 2 ^ r % 2 ^ r = 0 := Nat.mul_mod_left _ _
  have hj := nat_join r _ x h3 hx
  have hlt : x + (v % 2 ^ k) * 2 ^ r < 256 := by
    have h4 : (x ||| (v % 2 ^ k) * 2 ^ r) < 2 ^ 8 := Nat.or_lt_two_pow (by omega) h2
    rw [Nat.or_comm, hj] at h4
    omega
  refine ⟨?_, hlt⟩
  rw [u8_or _ _ (by omega) (by omega) (by omega) (by omega), Int.toNat_natCast, Int.toNat_natCast, Nat.or_comm, hj]
  congr 1; omega
end Go.Proofs.YtpjnbhflnbhnoaaGreatDoor

namespace Go.Proofs.YtpjnbhflnbhnoaaGreatDoor
open Go.RowKit
set_option linter.unusedVariables false
variable {wb : Nat} {og : Option Nat} {V n : Nat} {w : World}
/-- The last byte is there: bits may be put into it. -/
structure Wm (wb g c : Nat) (V n : Nat) (w : World) : Prop where
  row : w.heap[wb]? = some (.cells #[.slice (some ⟨g, 0, none⟩) (n / 8 + 1) c, .int .i64 n] 64)
  ow : Ow g (.slice (some ⟨g, 0, none⟩) (n / 8 + 1) c) (lows V (n / 8 + 1)) w
  ne : g ≠ wb
  vl : V < 2 ^ n
theorem Wm.cells {g c : Nat} (h : Wm wb g c V n w) : w.cell? ⟨wb, 0, none⟩ = some (.slice (some ⟨g, 0, none⟩) (n / 8 + 1) c) ∧ w.cell? ⟨wb, 1, none⟩ = some (.int .i64 n) ∧ w.frozen? ⟨wb, 1, none⟩ = false ∧ w.cell? ⟨g, n / 8, none⟩ = some (.int .u8 (V / 256 ^ (n / 8) % 256 : Nat)) ∧ w.frozen? ⟨g, n / 8, none⟩ = false ∧ n / 8 < c ∧ c < 9223372036854775808 := by
  have hl := lows_length V (n / 8 + 1)
  obtain ⟨k1, k2⟩ := h.ow.at (n / 8) (by omega)
  have hb : (lows V (n / 8 + 1))[n / 8]'(by omega) = BitVec.ofNat 8 (V / 256 ^ (n / 8)) := by
    have : (lows V (n / 8 + 1))[n / 8]? = some (BitVec.ofNat 8 (V / 256 ^ (n / 8))) := by
      rw [lows_succ, List.getElem?_append_right (by rw [lows_length]; exact Nat.le_refl _), lows_length, Nat.sub_self]; rfl
    rw [List.getElem?_eq_getElem (by omega)] at this
    injection this
  rw [hb, BitVec.toNat_ofNat] at k1
  have ho := h.ow
  obtain ⟨xs, e1, _, x3, x4, _⟩ := ho
  injection e1 with _ _ e3
  exact ⟨(row_cell h.row 0 _ rfl).1, (row_cell h.row 1 _ rfl).1, (row_cell h.row 1 _ rfl).2, k1, k2, by omega, by omega⟩
/-- Where a byte is begun already. -/
theorem Wr.mid (h : Wr wb og V n w) (h8 : n % 8 ≠ 0) : ∃ g c, og = some g ∧ Wm wb g c V n w := by
  obtain ⟨vb, h1, h2⟩ := h.row
  rw [lows_some n h8] at h2
  cases og with
  | none =>
    have := congrArg List.length h2.2
    rw [lows_length] at this
    simp at this
  | some g =>
    have h3 := h2
    obtain ⟨xs, e, _⟩ := h2
    rw [lows_length] at e
    subst e
    exact ⟨g, _, rfl, h1, h3, fun e => h.ne (by rw [e]), h.vl⟩
/-- Where one begins. -/
theorem Wr.mid0 (h : Wr wb og V n w) (h8 : n % 8 = 0) (hn : n ≤ 1000000000000000) : ∃ v0 v' g c W, w.cell? ⟨wb, 0, none⟩ = some v0 ∧ (∃ a L c, v0 = .slice a L c) ∧ (∃ a L c, v' = .slice a L c) ∧ Hid (∀ ty, (Builtin.append_ #[22, 22] ty #[v0, .slice (some ⟨w.heap.size, 0, none⟩) 1 1]).run Tryz.prog (w.alloc (.cells #[.int .u8 0] 5)) = .ok v' W) ∧ (∃ x, W.cell? ⟨wb, 0, none⟩ = some x) ∧ W.frozen? ⟨wb, 0, none⟩ = false ∧ Wm wb g c V n (W.setCell ⟨wb, 0, none⟩ v') ∧ Fr (fun k => k = wb ∨ og = some k) w (W.setCell ⟨wb, 0, none⟩ v') ∧ Went og (some g) w := by
  obtain ⟨vb, h1, h2⟩ := h.row
  have hlt := h.lt
  obtain ⟨v', og', W, k1, k2, k3, k4⟩ := og_step w og vb _ h2 (by rw [lows_length]; omega) 0#8 0 rfl
  rw [lows_zero V n h.vl h8] at k2
  cases og' with
  | none =>
    have := congrArg List.length k2.2
    rw [lows_length] at this
    simp at this
  | some g =>
    have hne : g ≠ wb := fun e => k4.ne wb h.ne hlt (by rw [e])
    have k2' := k2
    obtain ⟨xs, e, _⟩ := k2
    rw [lows_length] at e
    subst e
    have hrow := row_kept h1 k3 h.ne
    have f : Fr (fun k => k = wb) W (W.setCell ⟨wb, 0, none⟩ (.slice (some ⟨g, 0, none⟩) (n / 8 + 1) xs.length)) := (Fr.refl _ _).setCell _ _ (.inl rfl)
    obtain ⟨a, c, e, _, _⟩ := h2.form
    refine ⟨vb, _, g, xs.length, W, (row_cell h1 0 _ rfl).1, ⟨a, _, c, e⟩, ⟨_, _, _, rfl⟩, k1, ⟨_, (row_cell hrow 0 _ rfl).1⟩, (row_cell hrow 0 _ rfl).2, ⟨row_set hrow 0 _, Ow.kept k2' f hne, hne, h.vl⟩, ?_, k4⟩
    exact (k3.mono (fun i hi => .inl (.inr hi))).trans (f.mono (fun i hi => .inl (.inl hi)))
/-- Bits into the last byte, and how many there are. -/
theorem Wm.put {g c : Nat} (h : Wm wb g c V n w) (v k j : Nat) (hk : k = min (8 - n % 8) j) (hj : 0 < j) (hv : v < 2 ^ j) (hv2 : v < 4294967296) :
    ∃ y : Nat, bits .or .u8 ((V / 256 ^ (n / 8) % 256 : Nat) : Int) ((v * 2 ^ (n % 8) % 256 : Nat) : Int) = (y : Int) ∧ y < 256 ∧ ∀ W, Nw (w.setCell ⟨g, n / 8, none⟩ (.int .u8 y)) W → W.cell? ⟨wb, 1, none⟩ = some (.int .i64 n) ∧ W.frozen? ⟨wb, 1, none⟩ = false ∧ ∀ z : Int, z = ((n + k : Nat) : Int) → Wr wb (some g) (V + (v % 2 ^ k) * 2 ^ n) (n + k) (W.setCell ⟨wb, 1, none⟩ (.int .i64 z)) ∧ Fr (fun k => k = wb ∨ k = g) w (W.setCell ⟨wb, 1, none⟩ (.int .i64 z)) := by
  obtain ⟨e1, e2⟩ := or_byte V n v k j h.vl hk hv hv2
  have hk8 : k ≤ 8 - n % 8 := by omega
  have hk0 : 0 < k := by omega
  refine ⟨_, e1, e2, fun W hW => ?_⟩
  obtain ⟨p1, p2⟩ := lows_put V n v k h.vl hk8 hk0 (BitVec.ofNat 8 (V / 256 ^ (n / 8) % 256 + (v % 2 ^ k) * 2 ^ (n % 8))) (by rw [BitVec.toNat_ofNat, Nat.mod_eq_of_lt e2])
  have hl := lows_length V (n / 8 + 1)
  have o1 := h.ow.put (n / 8) (by omega) (BitVec.ofNat 8 (V / 256 ^ (n / 8) % 256 + (v % 2 ^ k) * 2 ^ (n % 8))) ((V / 256 ^ (n / 8) % 256 + (v % 2 ^ k) * 2 ^ (n % 8) : Nat) : Int) (by rw [BitVec.toNat_ofNat, Nat.mod_eq_of_lt e2])
  rw [p1] at o1
  generalize V / 256 ^ (n / 8) % 256 + (v % 2 ^ k) * 2 ^ (n % 8) = y at *
  have f1 : Fr (fun k => k = g) w (w.setCell ⟨g, n / 8, none⟩ (.int .u8 y)) := (Fr.refl _ _).setCell _ _ (.inl rfl)
  have o2 := o1.nw hW
  have hrow := row_kept (row_kept h.row f1 (fun e => h.ne e.symm)) hW (fun h => h)
  refine ⟨(row_cell hrow 1 _ rfl).1, (row_cell hrow 1 _ rfl).2, fun z hz => ?_⟩
  subst hz
  have f2 : Fr (fun k => k = wb) W (W.setCell ⟨wb, 1, none⟩ (.int .i64 ((n + k : Nat) : Int))) := (Fr.refl _ _).setCell _ _ (.inl rfl)
  exact ⟨⟨⟨_, row_set hrow 1 _, Ow.kept o2 f2 h.ne⟩, fun e => h.ne (by injection e), p2⟩, ((f1.mono (fun i hi => .inl (.inr hi))).trans hW.any).trans (f2.mono (fun i hi => .inl (.inl hi)))⟩
/-- How Put stands in its loop. -/
def PtI (wb : Nat) (og : Option Nat) (Vf Nf : Nat) (w : World) (v j : Nat) (og' : Option Nat) (V n : Nat) (wr : World) : Prop :=
  Wr wb og' V n wr ∧ V + v * 2 ^ n = Vf ∧ n + j = Nf ∧ v < 2 ^ j ∧ Fr (fun k => k = wb ∨ og = some k) w wr ∧ Went og og' w
theorem PtI.next {Vf Nf v j k : Nat} {og' og'' : Option Nat} {V n : Nat} {wr W : World} (h : PtI wb og Vf Nf w v j og' V n wr) (hk : k ≤ j) (hW : Wr wb og'' (V + (v % 2 ^ k) * 2 ^ n) (n + k) W) (hF : Fr (fun k => k = wb ∨ og' = some k) wr W) (hG : Went og' og'' wr) (hwb : wb < w.heap.size) :
    PtI wb og Vf Nf w (v / 2 ^ k) (j - k) og'' (V + (v % 2 ^ k) * 2 ^ n) (n + k) W := by
  obtain ⟨h1, h2, h3, h4, h5, h6⟩ := h
  refine ⟨hW, ?_, by omega, ?_, ?_, h6.trans hG h5.size⟩
  · rw [← h2, Nat.add_assoc]
    congr 1
    rw [Nat.pow_add, Nat.mul_comm (2 ^ n), ← Nat.mul_assoc, ← Nat.add_mul]
    congr 1
    rw [Nat.mul_comm]
    exact Nat.mod_add_div v (2 ^ k)
  · rw [Nat.div_lt_iff_lt_mul (Nat.pow_pos (by decide)), ← Nat.pow_add, Nat.sub_add_cancel hk]; exact h4
  · refine Fr.then h5 hF (fun i hi => ?_)
    rcases hi with rfl | hi
    · exact .inl (.inl rfl)
    · rcases h6 with rfl | ⟨g, rfl, hg⟩
      · exact .inl (.inr hi)
      · injection hi with hi; subst hi; exact .inr hg
/-- The last byte is there, and what follows when bits are put into it. -/
def MidP (wb J n1 x y s : Nat) (R : World → Prop) (wx : World) : Prop := ∃ g c J1, J1 = J + 1 ∧ wx.cell? ⟨wb, 0, none⟩ = some (.slice (some ⟨g, 0, none⟩) J1 c) ∧ wx.cell? ⟨wb, 1, none⟩ = some (.int .i64 n1) ∧ wx.cell? ⟨g, J, none⟩ = some (.int .u8 x) ∧ wx.frozen? ⟨g, J, none⟩ = false ∧ J < c ∧ c < 9223372036854775808 ∧ Hid (∀ W, Nw (wx.setCell ⟨g, J, none⟩ (.int .u8 y)) W → W.cell? ⟨wb, 1, none⟩ = some (.int .i64 n1) ∧ W.frozen? ⟨wb, 1, none⟩ = false ∧ R (W.setCell ⟨wb, 1, none⟩ (.int .i64 s)))
theorem PtI.round {Vf Nf v j : Nat} {og1 : Option Nat} {V1 n1 : Nat} {wr : World} (h : PtI wb og Vf Nf w v j og1 V1 n1 wr) (hj0 : 0 < j) (hwb : wb < w.heap.size) (hv : v < 4294967296) (hn : Nf ≤ 1000000000000000) :
    ∃ u k q d J x y s : Nat, (u = n1 % 8 ∧ k = min (8 - u) j ∧ q = v / 2 ^ k ∧ d = j - k ∧ J = n1 / 8 ∧ x < 256 ∧ y < 256 ∧ s = n1 + k ∧ n1 ≤ 1000000000000000) ∧ bits .or .u8 (x : Int) ((v * 2 ^ u % 256 : Nat) : Int) = (y : Int) ∧ wr.cell? ⟨wb, 1, none⟩ = some (.int .i64 n1) ∧
      ((u = 0 ∧ ∃ a L c a2 L2 c2 W, wr.cell? ⟨wb, 0, none⟩ = some (.slice a L c) ∧ Hid (∀ ty, (Builtin.append_ #[22, 22] ty #[.slice a L c, .slice (some ⟨wr.heap.size, 0, none⟩) 1 1]).run Tryz.prog (wr.alloc (.cells #[.int .u8 0] 5)) = .ok (.slice a2 L2 c2) W) ∧ (∃ x, W.cell? ⟨wb, 0, none⟩ = some x) ∧ W.frozen? ⟨wb, 0, none⟩ = false ∧ Hid (MidP wb J n1 x y s (fun W => ∃ og' V n, PtI wb og Vf Nf w q d og' V n W) (W.setCell ⟨wb, 0, none⟩ (.slice a2 L2 c2)))) ∨ (u ≠ 0 ∧ Hid (MidP wb J n1 x y s (fun W => ∃ og' V n, PtI wb og Vf Nf w q d og' V n W) wr))) := by
  obtain ⟨hR, h2, h3, h4, h5, h6⟩ := id h
  obtain ⟨e1, e2⟩ := or_byte V1 n1 v (min (8 - n1 % 8) j) j hR.vl rfl h4 hv
  have hmid : ∀ g c wx, Wm wb g c V1 n1 wx → Fr (fun k => k = wb ∨ og1 = some k) wr wx → Went og1 (some g) wr → MidP wb (n1 / 8) n1 (V1 / 256 ^ (n1 / 8) % 256) (V1 / 256 ^ (n1 / 8) % 256 + (v % 2 ^ min (8 - n1 % 8) j) * 2 ^ (n1 % 8)) (n1 + min (8 - n1 % 8) j) (fun W => ∃ og' V n, PtI wb og Vf Nf w (v / 2 ^ min (8 - n1 % 8) j) (j - min (8 - n1 % 8) j) og' V n W) wx := by
    intro g c wx hm hf hw
    obtain ⟨c0, c1, c2, c3, c4, c5, c6⟩ := hm.cells
    obtain ⟨y, p1, p2, p3⟩ := hm.put v (min (8 - n1 % 8) j) j rfl hj0 h4 hv
    have hy : V1 / 256 ^ (n1 / 8) % 256 + (v % 2 ^ min (8 - n1 % 8) j) * 2 ^ (n1 % 8) = y := by
      have := e1.symm.trans p1
      exact Int.ofNat.inj this
    rw [hy]
    refine ⟨g, c, _, rfl, c0, c1, c3, c4, c5, c6, fun W hW => ?_⟩
    obtain ⟨q1, q2, q3⟩ := p3 W hW
    obtain ⟨r1, r2⟩ := q3 _ rfl
    refine ⟨q1, q2, some g, _, _, h.next (Nat.min_le_right _ _) r1 ?_ hw hwb⟩
    refine hf.then r2 (fun i hi => ?_)
    rcases hi with rfl | rfl
    · exact .inl (.inl rfl)
    · rcases hw with e | ⟨g', e, hg'⟩
      · exact .inl (.inr e.symm)
      · injection e with e; subst e; exact .inr hg'
  refine ⟨n1 % 8, min (8 - n1 % 8) j, _, _, n1 / 8, V1 / 256 ^ (n1 / 8) % 256, V1 / 256 ^ (n1 / 8) % 256 + (v % 2 ^ min (8 - n1 % 8) j) * 2 ^ (n1 % 8), _, ⟨rfl, rfl, rfl, rfl, rfl, Nat.mod_lt _ (by decide), e2, rfl, by omega⟩, e1, ?_, ?_⟩
  · obtain ⟨vb, k1, _⟩ := hR.row
    exact (row_cell k1 1 _ rfl).1
  · by_cases h8 : n1 % 8 = 0
    · obtain ⟨v0, v', g, c, W, k1, ⟨a, L, c', rfl⟩, ⟨a2, L2, c2, rfl⟩, k3, k4, k5, k6, k7, k8⟩ := hR.mid0 h8 (by omega)
      exact .inl ⟨h8, a, L, c', a2, L2, c2, W, k1, k3, k4, k5, hmid g c _ k6 k7 k8⟩
    · obtain ⟨g, c, rfl, k⟩ := hR.mid h8
      exact .inr ⟨h8, hmid g c wr k (Fr.refl _ _) (.inl rfl)⟩
end Go.Proofs.YtpjnbhflnbhnoaaGreatDoor

namespace Go.Proofs.YtpjnbhflnbhnoaaGreatDoor
open Go.RowKit
set_option linter.unusedVariables false
variable {wb : Nat} {og : Option Nat} {V n : Nat} {w : World}
/-- Whether Put takes it. -/
def puts (v : Nat) (n : Int) : Bool := decide (0 ≤ n) && decide (n ≤ 32) && decide (v < 2 ^ n.toNat)
theorem puts_no {v : Nat} {n : Int} (h : puts v n = false) : n < 0 ∨ 32 < n ∨ ∃ m : Nat, n = m ∧ m ≤ 32 ∧ 2 ^ m ≤ v := by
  by_cases h1 : n < 0
  · exact .inl h1
  by_cases h2 : 32 < n
  · exact .inr (.inl h2)
  refine .inr (.inr ⟨n.toNat, by omega, by omega, ?_⟩)
  rcases Nat.lt_or_ge v (2 ^ n.toNat) with h3 | h3
  · exfalso
    have : puts v n = true := by
      unfold puts
      rw [decide_eq_true (show 0 ≤ n by omega), decide_eq_true (show n ≤ 32 by omega), decide_eq_true h3]; rfl
    rw [this] at h; cases h
  · exact h3
theorem puts_yes {v : Nat} {n : Int} (h : puts v n = true) : ∃ m : Nat, n = m ∧ m ≤ 32 ∧ v < 2 ^ m := by
  unfold puts at h
  simp only [Bool.and_eq_true, decide_eq_true_eq] at h
  exact ⟨n.toNat, by omega, by omega, h.2⟩
set_option maxHeartbeats 8000000 in
theorem bput_no (v : Nat) (hv : v < 4294967296) (n : Int) (hp : puts v n = false) (wb : Nat) (w : World) : Calls Tryz.prog 103 #[.pointer (some ⟨wb, 0, none⟩), .int .u32 v, .int .i64 n] w fun e w' => e = .returned (.int .i64 1) ∧ w' = w := by
  obtain ⟨P, hP⟩ : ∃ P : Ending → World → Prop, P = fun e w' => e = .returned (.int .i64 1) ∧ w' = w := ⟨_, rfl⟩
  rw [← hP]
  have HF : Hid (P (.returned (.int .i64 1)) w) := by
    show P _ _
    rw [hP]; exact ⟨rfl, rfl⟩
  have hc := puts_no hp
  clear hP hp
  rcases hc with h1 | h1 | ⟨m, rfl, hm, hvm⟩
  · go_enter Tryz.func103, Tryz.ntmps103
    go_wp2
    exact HF.out
  · have h2 : ¬ n < 0 := by omega
    go_enter Tryz.func103, Tryz.ntmps103
    go_wp2
    exact HF.out
  · obtain ⟨q, hq⟩ : ∃ q, q = v / 2 ^ m := ⟨_, rfl⟩
    have hq0 : 0 < q := by rw [hq]; exact Nat.div_pos hvm (Nat.pow_pos (by decide))
    have hqi : (v : Int) / 2 ^ m = (q : Int) := by rw [hq]; push_cast; rfl
    have hqn : ((q : Int) != 0) = true := by simp; omega
    have hqn2 : ¬ (q : Int) = 0 := by omega
    have h2 : ¬ (32 : Int) < (m : Int) := by omega
    have h3 : ¬ (m : Int) < 0 := by omega
    clear hq hvm
    go_enter Tryz.func103, Tryz.ntmps103
    go_wp2
    exact HF.out
set_option maxHeartbeats 8000000 in
set_option maxRecDepth 100000 in
theorem bput_yes (h : Wr wb og V n w) (hn : n ≤ 999999999999000) (v : Nat) (hv : v < 4294967296) (m : Nat) (hm : m ≤ 32) (hvm : v < 2 ^ m) : Calls Tryz.prog 103 #[.pointer (some ⟨wb, 0, none⟩), .int .u32 v, .int .i64 m] w fun e w' => e = .returned (.int .i64 0) ∧ ∃ og', Wr wb og' (V + v * 2 ^ n) (n + m) w' ∧ Fr (fun k => k = wb ∨ og = some k) w w' ∧ Went og og' w := by
  obtain ⟨P, hP⟩ : ∃ P : Ending → World → Prop, P = fun e w' => e = .returned (.int .i64 0) ∧ ∃ og', Wr wb og' (V + v * 2 ^ n) (n + m) w' ∧ Fr (fun k => k = wb ∨ og = some k) w w' ∧ Went og og' w := ⟨_, rfl⟩
  rw [← hP]
  have hwb := h.lt
  obtain ⟨Vf, hVf⟩ : ∃ Vf, Vf = V + v * 2 ^ n := ⟨_, rfl⟩
  obtain ⟨Nf, hNf⟩ : ∃ Nf, Nf = n + m := ⟨_, rfl⟩
  have HF : Hid (∀ W og' V' n', PtI wb og Vf Nf w 0 0 og' V' n' W → P (.returned (.int .i64 0)) W) := by
    rintro W og' V' n' ⟨k1, k2, k3, k4, k5, k6⟩
    rw [hP]
    refine ⟨rfl, og', ?_, k5, k6⟩
    rw [← hVf, ← hNf, ← k2, ← k3, Nat.zero_mul, Nat.add_zero, Nat.add_zero]; exact k1
  have HI0 : Hid (PtI wb og Vf Nf w v m og V n w) := ⟨h, hVf.symm, hNf.symm, hvm, Fr.refl _ _, .inl rfl⟩
  have hNb : Nf ≤ 999999999999032 := by omega
  have hq0 : (v : Int) / 2 ^ m = 0 := by
    have : v / 2 ^ m = 0 := Nat.div_eq_of_lt hvm
    have e : (v : Int) / 2 ^ m = ((v / 2 ^ m : Nat) : Int) := by push_cast; rfl
    rw [e, this]; rfl
  have h2 : ¬ (32 : Int) < (m : Int) := by omega
  have h3 : ¬ (m : Int) < 0 := by omega
  have HW : Hid (wb < w.heap.size) := hwb
  clear hP h hVf hNf hvm hwb hn
  go_enter Tryz.func103, Tryz.ntmps103
  go_wp2
  go_loopg [1, 2] m (fun kx vv nn wr => ∃ (v j : Nat), j ≤ 32 ∧ j ≤ kx ∧ v < 4294967296 ∧ vv = .int .u32 v ∧ nn = .int .i64 j ∧ Hid (∃ og' V n, PtI wb og Vf Nf w v j og' V n wr))
  case atStart => exact ⟨v, m, hm, Nat.le_refl _, hv, rfl, rfl, ⟨og, V, n, HI0.out⟩⟩
  case round =>
    obtain ⟨v, j, hj, hkx, hv, rfl, rfl, HI⟩ := hrel
    clear HI0 hq0 h2 h3
    obtain ⟨og1, V1, n1, hI⟩ := HI.out
    by_cases hj0 : j = 0
    · subst hj0
      have hv0 : v = 0 := by have := hI.2.2.2.1; simp at this; exact this
      subst hv0
      have HF2 : Hid (P (.returned (.int .i64 0)) wr) := HF.out _ _ _ _ hI
      clear HI hI HF
      go_wp2_with fail
      exact HF2.out
    · obtain ⟨u, k, q, d, J, x, y, s, ⟨hu, hk, hq, hd, hJ, hx, hy, hs, hn1⟩, hor, x1, hmid⟩ := hI.round (by omega) HW.out hv (by omega)
      have hui : (n1 : Int) % 8 = (u : Int) := by omega
      have hu8 : u < 8 := by omega
      have hki : min (8 - (u : Int)) (j : Int) = (k : Int) := by omega
      have hkj : k ≤ j := by omega
      have hk32 : k ≤ 32 := by omega
      have hqi : (v : Int) / 2 ^ k = (q : Int) := by rw [hq]; push_cast; rfl
      have hqv : q < 4294967296 := Nat.lt_of_le_of_lt (by rw [hq]; exact Nat.div_le_self _ _) hv
      have hdi : (j : Int) - (k : Int) = (d : Int) := by omega
      have hdj : d < j := by omega
      have hsi : (n1 : Int) + (k : Int) = (s : Int) := by omega
      have hJ1 : J ≤ 999999999999032 := by omega
      have hj0' : (0 : Int) < (j : Int) := by omega
      have hor' : bits .or .u8 (x : Int) ((v : Int) * 2 ^ u % 256) = (y : Int) := by rw [← hor]; push_cast; rfl
      have HM : Hid _ := hmid
      obtain ⟨R, hRR⟩ : ∃ R : World → Prop, R = fun W => ∃ og' V n, PtI wb og Vf Nf w q d og' V n W := ⟨_, rfl⟩
      have HR : Hid (R = fun W => ∃ og' V n, PtI wb og Vf Nf w q d og' V n W) := hRR
      rw [← hRR] at hmid HM
      clear HI hI hu hk hq hd hJ hs hRR HF hmid hor
      go_upto_if 30 with fail
      go_cut [7] (fun t7 wx => t7 = .int .i64 u ∧ MidP wb J n1 x y s R wx)
      case first =>
        rcases HM.out with ⟨rfl, a, L, c, a3, L3, c3, W, y0, HAP, ⟨x2, y2⟩, y3, HMP⟩ | ⟨hu0, HMP⟩
        · clear HM
          go_wp2_with (first
            | (at_builtin; refine Lib.wpList_append_run _ rfl _ _ 22 22 rfl (.slice a L c) (.slice (some ⟨_, 0, none⟩) 1 1) (by simp [Act.eval]) (by simp [Act.eval]) _ _ (HAP.out _) ?_))
          go_meet
          exact ⟨by first | rfl | simp, HMP.out⟩
        · have hz : ((u : Int) == 0) = false := by simp; omega
          clear HM
          go_wp2_with fail
          go_meet
          exact ⟨by first | rfl | (rw [hui]), HMP.out⟩
      case rest =>
        obtain ⟨rfl, g, c, J1, hJ1e, z0, z1, z2, z3, z4, z5, HN⟩ := hcut
        have hJ1i : (J1 : Int) - 1 = (J : Int) := by omega
        have hJ1b : J1 ≤ 999999999999033 := by omega
        have hJJ : (J : Int) < (J1 : Int) := by omega
        clear HM hJ1e
        go_upto_region 7 with fail
        go_region
        obtain ⟨q1, q2, q3⟩ := HN.out (wc.setCell ⟨g, J, none⟩ (.int .u8 y)).drew ((Fr.refl _ _).drew)
        have HR3 : Hid (R ((wc.setCell ⟨g, J, none⟩ (.int .u8 y)).drew.setCell ⟨wb, 1, none⟩ (.int .i64 s))) := q3
        clear HN q3 z0 z1 z2 z3
        generalize (wc.setCell ⟨g, J, none⟩ (.int .u8 y)).drew = W5 at *
        go_wp2_with fail
        go_roundg d
        case measure => omega
        case rel => exact ⟨q, d, by omega, by omega, hqv, rfl, rfl, by have := HR3.out; rw [HR.out] at this; exact this⟩
end Go.Proofs.YtpjnbhflnbhnoaaGreatDoor

namespace Go.Proofs.YtpjnbhflnbhnoaaGreatDoor
open Go.RowKit
set_option linter.unusedVariables false
variable {wb : Nat} {og : Option Nat} {V n : Nat} {w : World}
theorem Wr.cells (h : Wr wb og V n w) : ∃ a c, w.cell? ⟨wb, 0, none⟩ = some (.slice a ((n + 7) / 8) c) ∧ w.cell? ⟨wb, 1, none⟩ = some (.int .i64 n) ∧ w.frozen? ⟨wb, 0, none⟩ = false ∧ w.frozen? ⟨wb, 1, none⟩ = false ∧ (n + 7) / 8 ≤ c ∧ c < 9223372036854775808 ∧ Og og (.slice a ((n + 7) / 8) c) (lows V ((n + 7) / 8)) w := by
  obtain ⟨vb, h1, h2⟩ := h.row
  obtain ⟨a, c, e, h3, h4⟩ := h2.form
  rw [lows_length] at e h3
  subst e
  exact ⟨a, c, (row_cell h1 0 _ rfl).1, (row_cell h1 1 _ rfl).1, (row_cell h1 0 _ rfl).2, (row_cell h1 1 _ rfl).2, h3, h4, h2⟩
theorem Wr.go (h : Wr wb og V n w) (q : Nat) (z : Int) (hz : z = q) (hq : (q + 7) / 8 = (n + 7) / 8) (hV : V < 2 ^ q) : Wr wb og V q (w.setCell ⟨wb, 1, none⟩ (.int .i64 z)) ∧ Fr (fun k => k = wb) w (w.setCell ⟨wb, 1, none⟩ (.int .i64 z)) := by
  subst hz
  obtain ⟨vb, h1, h2⟩ := h.row
  have f : Fr (fun k => k = wb) w (w.setCell ⟨wb, 1, none⟩ (.int .i64 q)) := (Fr.refl _ _).setCell _ _ (.inl rfl)
  exact ⟨⟨⟨vb, row_set h1 1 _, by rw [hq]; exact h2.kept f (fun g hg e => h.ne (by rw [hg, e]))⟩, h.ne, hV⟩, f⟩
theorem up8_ge (n : Nat) : n ≤ up8 n ∧ up8 n < n + 8 ∧ up8 n % 8 = 0 ∧ (up8 n + 7) / 8 = (n + 7) / 8 := by unfold up8; omega
theorem lt_up {V n m : Nat} (h : V < 2 ^ n) (hm : n ≤ m) : V < 2 ^ m := Nat.lt_of_lt_of_le h (Nat.pow_le_pow_right (by decide) hm)
set_option maxHeartbeats 8000000 in
theorem walign_any (h : Wr wb og V n w) (hn : n ≤ 1000000000000) : Calls Tryz.prog 102 #[.pointer (some ⟨wb, 0, none⟩)] w fun e w' => (∃ r, e = .returned r) ∧ Wr wb og V (up8 n) w' ∧ Fr (fun k => k = wb) w w' := by
  obtain ⟨P, hP⟩ : ∃ P : Ending → World → Prop, P = fun e w' => (∃ r, e = .returned r) ∧ Wr wb og V (up8 n) w' ∧ Fr (fun k => k = wb) w w' := ⟨_, rfl⟩
  rw [← hP]
  obtain ⟨u1, u2, u3, u4⟩ := up8_ge n
  have HA : Hid (Calls Tryz.prog 141 #[.int .i64 n] w fun e w' => e = .returned (.int .i64 (up8 n)) ∧ w' = w) := aligned_any n (by omega) w
  have HF : Hid (∀ r, P (.returned r) (w.setCell ⟨wb, 1, none⟩ (.int .i64 (up8 n)))) := fun r => by rw [hP]; exact ⟨⟨_, rfl⟩, h.go (up8 n) _ rfl u4 (lt_up h.vl u1)⟩
  obtain ⟨a, c, x0, x1, x2, x3, _⟩ := h.cells
  clear hP h x0 u2 u3 u4 u1
  generalize up8 n = q at *
  go_enter Tryz.func102, Tryz.ntmps102
  go_wp2_with (first | (go_at_call 141; (with_reducible refine HA.out.mono ?_); rintro e w1 ⟨rfl, rfl⟩))
  go_end0
  exact HF.out _
set_option maxHeartbeats 8000000 in
theorem wlen_any (h : Wr wb og V n w) : Calls Tryz.prog 123 #[.pointer (some ⟨wb, 0, none⟩)] w fun e w' => e = .returned (.int .i64 n) ∧ w' = w := by
  obtain ⟨P, hP⟩ : ∃ P : Ending → World → Prop, P = fun e w' => e = .returned (.int .i64 n) ∧ w' = w := ⟨_, rfl⟩
  rw [← hP]
  have HF : Hid (P (.returned (.int .i64 n)) w) := by
    show P _ _
    rw [hP]; exact ⟨rfl, rfl⟩
  obtain ⟨a, c, x0, x1, x2, x3, _⟩ := h.cells
  clear hP h x0
  go_enter Tryz.func123, Tryz.ntmps123
  go_wp2
  exact HF.out
set_option maxHeartbeats 8000000 in
theorem wdone_any (h : Wr wb og V n w) (hn : n ≤ 999999999999000) : Calls Tryz.prog 38 #[.pointer (some ⟨wb, 0, none⟩)] w fun e w' => ∃ r, e = .returned r ∧ Mine (fun k => k < w.heap.size) r (lows V ((n + 7) / 8)) w' ∧ Nw w w' := by
  obtain ⟨P, hP⟩ : ∃ P : Ending → World → Prop, P = fun e w' => ∃ r, e = .returned r ∧ Mine (fun k => k < w.heap.size) r (lows V ((n + 7) / 8)) w' ∧ Nw w w' := ⟨_, rfl⟩
  rw [← hP]
  obtain ⟨a, c, x0, x1, x2, x3, x4, x5, hO⟩ := h.cells
  have HC : Hid (Calls Tryz.prog 52 #[.slice a ((n + 7) / 8) c] w fun e w' => ∃ r, e = .returned r ∧ Hid (P (.returned r) w')) := by
    refine (clone_any w _ _ (hO.sl.mono (fun _ h => h.elim)) (by rw [lows_length]; omega)).mono ?_
    rintro e w' ⟨r, rfl, h1, h2⟩
    refine ⟨r, rfl, ?_⟩
    show P _ _
    rw [hP]; exact ⟨r, rfl, h1, h2⟩
  clear hP h x1 x2 x3 hO
  generalize (n + 7) / 8 = L at *
  go_enter Tryz.func38, Tryz.ntmps38
  go_wp2_with (first | (go_at_call 52; (with_reducible refine HC.out.mono ?_); rintro e w1 ⟨r, rfl, HF⟩))
  exact HF.out
theorem lows_add (V J : Nat) (b : List By) (h : V < 256 ^ J) : lows V J ++ b = lows (V + le b * 256 ^ J) (J + b.length) ∧ V + le b * 256 ^ J < 256 ^ (J + b.length) := by
  have h1 := le_lt b
  have h2 : V + le b * 256 ^ J < 256 ^ (J + b.length) := by
    have h3 : (le b + 1) * 256 ^ J ≤ 256 ^ b.length * 256 ^ J := Nat.mul_le_mul_right _ h1
    rw [Nat.pow_add, Nat.mul_comm (256 ^ J)]
    rw [Nat.add_mul] at h3
    omega
  refine ⟨le_inj _ _ (by rw [List.length_append, lows_length, lows_length]) ?_, h2⟩
  rw [le_append, le_lows, le_lows, lows_length, Nat.mod_eq_of_lt h, Nat.mod_eq_of_lt h2, Nat.mul_comm]
set_option maxHeartbeats 8000000 in
set_option maxRecDepth 100000 in
theorem wadd_any (h : Wr wb og V n w) (hn : n ≤ 1000000000000) (v : Value) (b : List By) (hb : Sl (fun k => k = wb) v b w) (hbl : b.length ≤ 1000000000) : Calls Tryz.prog 104 #[.pointer (some ⟨wb, 0, none⟩), v] w fun e w' => (∃ r, e = .returned r) ∧ ∃ og', Wr wb og' (V + le b * 2 ^ up8 n) (up8 n + 8 * b.length) w' ∧ Fr (fun k => k = wb ∨ og = some k) w w' ∧ Went og og' w := by
  obtain ⟨P, hP⟩ : ∃ P : Ending → World → Prop, P = fun e w' => (∃ r, e = .returned r) ∧ ∃ og', Wr wb og' (V + le b * 2 ^ up8 n) (up8 n + 8 * b.length) w' ∧ Fr (fun k => k = wb ∨ og = some k) w w' ∧ Went og og' w := ⟨_, rfl⟩
  rw [← hP]
  obtain ⟨u1, u2, u3, u4⟩ := up8_ge n
  obtain ⟨u, hu⟩ : ∃ u, u = up8 n := ⟨_, rfl⟩
  rw [← hu] at u1 u2 u3 u4
  obtain ⟨q, hq⟩ : ∃ q, q = u + 8 * b.length := ⟨_, rfl⟩
  obtain ⟨ab, cb, rfl, hcb, hcb2⟩ := hb.form
  have HC : Hid (Calls Tryz.prog 102 #[.pointer (some ⟨wb, 0, none⟩)] w fun e w1 => (∃ r, e = .returned r) ∧ ∃ a L c a2 L2 c2 W, w1.cell? ⟨wb, 0, none⟩ = some (.slice a L c) ∧ Hid (∀ ty, (Builtin.append_ #[22, 22] ty #[.slice a L c, .slice ab b.length cb]).run Tryz.prog w1 = .ok (.slice a2 L2 c2) W) ∧ (∃ x, W.cell? ⟨wb, 0, none⟩ = some x) ∧ W.frozen? ⟨wb, 0, none⟩ = false ∧ (W.setCell ⟨wb, 0, none⟩ (.slice a2 L2 c2)).cell? ⟨wb, 1, none⟩ = some (.int .i64 u) ∧ (W.setCell ⟨wb, 0, none⟩ (.slice a2 L2 c2)).frozen? ⟨wb, 1, none⟩ = false ∧ Hid (∀ r, P (.returned r) ((W.setCell ⟨wb, 0, none⟩ (.slice a2 L2 c2)).setCell ⟨wb, 1, none⟩ (.int .i64 q)))) := by
    refine (walign_any h hn).mono ?_
    rintro e w1 ⟨he, hW, hF⟩
    rw [← hu] at hW
    obtain ⟨a, c, x0, x1, x2, x3, x4, x5, hO⟩ := hW.cells
    obtain ⟨v', og', W, k1, k2, k3, k4⟩ := og_app w1 og _ _ hO _ b ((hb.kept hF (fun g hg => hg)).mono (fun _ h => h.elim)) (by rw [lows_length]; omega)
    obtain ⟨a2, c2, e2, _, _⟩ := k2.form
    subst e2
    obtain ⟨vb, r1, _⟩ := hW.row
    have hwb1 := hW.lt
    have hrow := row_kept r1 k3 h.ne
    have hne : og' ≠ some wb := k4.ne wb h.ne hwb1
    have hrow2 := row_set hrow 0 (.slice a2 (lows V ((u + 7) / 8) ++ b).length c2)
    have f1 : Fr (fun k => k = wb) W (W.setCell ⟨wb, 0, none⟩ (.slice a2 (lows V ((u + 7) / 8) ++ b).length c2)) := (Fr.refl _ _).setCell _ _ (.inl rfl)
    refine ⟨he, a, _, c, a2, _, c2, W, x0, k1, ⟨_, (row_cell hrow 0 _ rfl).1⟩, (row_cell hrow 0 _ rfl).2, (row_cell hrow2 1 _ rfl).1, (row_cell hrow2 1 _ rfl).2, fun r => ?_⟩
    rw [hP]
    have f2 : Fr (fun k => k = wb) (W.setCell ⟨wb, 0, none⟩ (.slice a2 (lows V ((u + 7) / 8) ++ b).length c2)) ((W.setCell ⟨wb, 0, none⟩ (.slice a2 (lows V ((u + 7) / 8) ++ b).length c2)).setCell ⟨wb, 1, none⟩ (.int .i64 q)) := (Fr.refl _ _).setCell _ _ (.inl rfl)
    have hVJ : V < 256 ^ ((u + 7) / 8) := by rw [pow256]; exact lt_up hW.vl (by omega)
    obtain ⟨e3, e4⟩ := lows_add V ((u + 7) / 8) b hVJ
    have hk2 := (k2.kept f1 (fun g hg e => hne (by rw [hg, e]))).kept f2 (fun g hg e => hne (by rw [hg, e]))
    have hq8 : (q + 7) / 8 = (u + 7) / 8 + b.length := by omega
    have e5 : 256 ^ ((u + 7) / 8) = 2 ^ u := by rw [pow256]; congr 1; omega
    refine ⟨⟨_, rfl⟩, og', ?_, ?_, ?_⟩
    · rw [← hu, ← hq]
      refine ⟨⟨_, row_set hrow2 1 _, ?_⟩, hne, ?_⟩
      · rw [hq8, ← e5, ← e3]; exact hk2
      · rw [e5] at e4
        refine Nat.lt_of_lt_of_le e4 ?_
        rw [pow256]; exact Nat.pow_le_pow_right (by decide) (by omega)
    · exact (((hF.mono (fun i hi => .inl (.inl hi))).trans (k3.mono (fun i hi => .inl (.inr hi)))).trans (f1.mono (fun i hi => .inl (.inl hi)))).trans (f2.mono (fun i hi => .inl (.inl hi)))
    · exact (Went.refl og w).trans k4 hF.size
  have hqi : (u : Int) + 8 * (b.length : Int) = (q : Int) := by omega
  have hqb : q ≤ 1008000000008 := by omega
  have hub : u ≤ 1000000000008 := by omega
  clear hP h hb hu hq u3 u4
  generalize b.length = B at *
  go_enter Tryz.func104, Tryz.ntmps104
  go_upto_region 1 with (first | (go_at_call 102; (with_reducible refine HC.out.mono ?_); rintro e w1 ⟨⟨r, rfl⟩, a, L, c, a2, L2, c2, W, x0, HAP, ⟨x, x1⟩, x2, x3, x4, HF⟩))
  go_upto_region 2 with (first
      | (at_builtin; refine Lib.wpList_append_run _ rfl _ _ 22 22 rfl (.slice a L c) (.slice ab B cb) (by simp [Act.eval]) (by simp [Act.eval]) _ _ (HAP.out _) ?_))
  generalize W.setCell ⟨wb, 0, none⟩ (.slice a2 L2 c2) = W2 at *
  clear HAP x0 x1 x2 HC
  go_wp2_with fail
  go_end0
  exact HF.out _
end Go.Proofs.YtpjnbhflnbhnoaaGreatDoor

namespace Go.Proofs.YtpjnbhflnbhnoaaGreatDoor
open Go.RowKit
set_option linter.unusedVariables false
theorem leApp (a b : List By) : le (a ++ b) = le a + le b * 2 ^ (8 * a.length) := by
  induction a with
  | nil => simp [le]
  | cons x r ih =>
    simp only [List.cons_append, le, ih, List.length_cons]
    rw [show 8 * (r.length + 1) = 8 * r.length + 8 by omega, Nat.pow_add, show (2 : Nat) ^ 8 = 256 from rfl, Nat.mul_add, ← Nat.mul_assoc (le b), Nat.mul_comm 256 (le b * 2 ^ (8 * r.length))]
    omega
theorem leLt (l : List By) : le l < 2 ^ (8 * l.length) := by
  have := le_lt l
  rw [show (256 : Nat) = 2 ^ 8 from rfl, ← Nat.pow_mul] at this
  exact this
theorem lowsLe (l : List By) : lows (le l) l.length = l := by
  induction l with
  | nil => rfl
  | cons x r ih =>
    simp only [List.length_cons, lows, le]
    have hx := x.isLt
    rw [show (x.toNat + 256 * le r) / 256 = le r by omega, ih]
    congr 1
    apply BitVec.eq_of_toNat_eq
    rw [BitVec.toNat_ofNat]
    omega
/-- A writer of whole bytes. -/
def Wb (wb : Nat) (og : Option Nat) (L : List By) (w : World) : Prop := Wr wb og (le L) (8 * L.length) w
variable {wb : Nat} {og : Option Nat} {L : List By} {w : World}
set_option maxHeartbeats 4000000 in
/-- A block's head of the kind of stored ones, and the filling up. -/
theorem whead_any (h : Wr wb og (le L) (8 * L.length) w) (hL : L.length ≤ 100000000) (last : Bool) :
    Calls Tryz.prog 69 #[.pointer (some ⟨wb, 0, none⟩), .int .u32 0, .bool last] w fun e w' => (∃ r, e = .returned r) ∧ ∃ og', Wr wb og' (le L + (if last then 1 else 0) * 2 ^ (8 * L.length)) (8 * L.length + 3) w' ∧ Fr (fun k => k = wb ∨ og = some k) w w' ∧ Went og og' w := by
  obtain ⟨P, hP⟩ : ∃ P : Ending → World → Prop, P = fun e w' => (∃ r, e = .returned r) ∧ ∃ og', Wr wb og' (le L + (if last then 1 else 0) * 2 ^ (8 * L.length)) (8 * L.length + 3) w' ∧ Fr (fun k => k = wb ∨ og = some k) w w' ∧ Went og og' w := ⟨_, rfl⟩
  rw [← hP]
  obtain ⟨x, hx⟩ : ∃ x : Nat, x = if last then 1 else 0 := ⟨_, rfl⟩
  have hx1 : x < 2 := by rw [hx]; split <;> omega
  have HP : Hid (Calls Tryz.prog 103 #[.pointer (some ⟨wb, 0, none⟩), .int .u32 (x : Nat), .int .i64 (1 : Nat)] w fun e w1 => e = .returned (.int .i64 0) ∧ Hid (Calls Tryz.prog 103 #[.pointer (some ⟨wb, 0, none⟩), .int .u32 (0 : Nat), .int .i64 (2 : Nat)] w1 fun e w2 => e = .returned (.int .i64 0) ∧ Hid (∀ r, P (.returned r) w2))) := by
    show Calls _ _ _ _ _
    refine (bput_yes h (by omega) x (by omega) 1 (by decide) (by omega)).mono ?_
    rintro e w1 ⟨rfl, og1, h1, f1, g1⟩
    refine ⟨rfl, ?_⟩
    show Calls _ _ _ _ _
    refine (bput_yes h1 (by omega) 0 (by decide) 2 (by decide) (by decide)).mono ?_
    rintro e w2 ⟨rfl, og2, h2, f2, g2⟩
    refine ⟨rfl, fun r => ?_⟩
    rw [hP]
    rw [Nat.zero_mul, Nat.add_zero] at h2
    have s1 := f1.size
    refine ⟨⟨r, rfl⟩, og2, by rw [← hx]; exact h2, f1.then f2 (fun i hi => ?_), g1.trans g2 s1⟩
    rcases hi with hi | hi
    · exact .inl (.inl hi)
    · rcases g1 with e | ⟨g, e, hg⟩
      · exact .inl (.inr (by rw [← e]; exact hi))
      · rw [e] at hi; injection hi with hi; subst hi; exact .inr hg
  clear hP h
  cases last
  · simp only [Bool.false_eq_true, if_false] at hx
    subst hx
    have HQ : Hid (Calls Tryz.prog 103 #[.pointer (some ⟨wb, 0, none⟩), .int .u32 0, .int .i64 1] w fun e w1 => e = .returned (.int .i64 0) ∧ Hid (Calls Tryz.prog 103 #[.pointer (some ⟨wb, 0, none⟩), .int .u32 0, .int .i64 2] w1 fun e w2 => e = .returned (.int .i64 0) ∧ Hid (∀ r, P (.returned r) w2))) := HP
    clear HP
    go_enter Tryz.func69, Tryz.ntmps69
    go_wp2_with (first
      | (go_at_call 103; with_reducible refine HQ.out.mono ?_; rintro e w1 ⟨rfl, H1⟩)
      | (go_at_call 103; with_reducible refine H1.out.mono ?_; rintro e w2 ⟨rfl, H2⟩))
    all_goals (first | exact H2.out _ | (go_end0; exact H2.out _))
  · simp only [if_true] at hx
    subst hx
    have HQ : Hid (Calls Tryz.prog 103 #[.pointer (some ⟨wb, 0, none⟩), .int .u32 1, .int .i64 1] w fun e w1 => e = .returned (.int .i64 0) ∧ Hid (Calls Tryz.prog 103 #[.pointer (some ⟨wb, 0, none⟩), .int .u32 0, .int .i64 2] w1 fun e w2 => e = .returned (.int .i64 0) ∧ Hid (∀ r, P (.returned r) w2))) := HP
    clear HP
    go_enter Tryz.func69, Tryz.ntmps69
    go_wp2_with (first
      | (go_at_call 103; with_reducible refine HQ.out.mono ?_; rintro e w1 ⟨rfl, H1⟩)
      | (go_at_call 103; with_reducible refine H1.out.mono ?_; rintro e w2 ⟨rfl, H2⟩))
    all_goals (first | exact H2.out _ | (go_end0; exact H2.out _))
end Go.Proofs.YtpjnbhflnbhnoaaGreatDoor

namespace Go.Proofs.YtpjnbhflnbhnoaaGreatDoor
open Go.RowKit
set_option linter.unusedVariables false
variable {wb : Nat} {og : Option Nat} {L : List By} {w : World}
theorem xor_full16 (n : Nat) (h : n < 65536) : bits .xor .u32 (n : Int) 65535 = ((65535 - n : Nat) : Int) := by
  rw [show (65535 : Int) = ((65535 : Nat) : Int) from rfl, u32_xor_n _ _ (by omega) (by decide)]
  have : (BitVec.ofNat 16 n ^^^ BitVec.ofNat 16 65535).toNat = 65535 - n := by
    rw [show BitVec.ofNat 16 65535 = BitVec.allOnes 16 by decide, BitVec.xor_allOnes, BitVec.toNat_not, BitVec.toNat_ofNat, Nat.mod_eq_of_lt h]
  rw [BitVec.toNat_xor, BitVec.toNat_ofNat, BitVec.toNat_ofNat, Nat.mod_eq_of_lt h, show 65535 % 2 ^ 16 = 65535 by decide] at this
  rw [this]
/-- A number of k bytes more. -/
theorem wr_lows {v k : Nat} {n : Nat} (h : Wr wb og (le L + v * 2 ^ (8 * L.length)) n w) (hv : v < 256 ^ k) (hn : n = 8 * L.length + 8 * k) : Wr wb og (le (L ++ lows v k)) (8 * (L ++ lows v k).length) w := by
  rw [le_append, le_lows, Nat.mod_eq_of_lt hv, List.length_append, lows_length, pow256, Nat.mul_comm (2 ^ _) v, Nat.mul_add, ← hn]
  exact h
theorem wr_bytes {b : List By} {n : Nat} (h : Wr wb og (le L + le b * 2 ^ (8 * L.length)) n w) (hn : n = 8 * L.length + 8 * b.length) : Wr wb og (le (L ++ b)) (8 * (L ++ b).length) w := by
  rw [le_append, List.length_append, pow256, Nat.mul_comm (2 ^ _) (le b), Nat.mul_add, ← hn]
  exact h
/-- What stands ahead of a stored block's bytes. -/
def shd (x n : Nat) : List By := lows x 1 ++ (lows n 2 ++ lows (65535 - n) 2)
theorem fr_went {og1 : Option Nat} {w1 w2 : World} (f1 : Fr (fun k => k = wb ∨ og = some k) w w1) (g1 : Went og og1 w) (f2 : Fr (fun k => k = wb ∨ og1 = some k) w1 w2) : Fr (fun k => k = wb ∨ og = some k) w w2 := f1.then f2 (fun i hi => by
  rcases hi with hi | hi
  · exact .inl (.inl hi)
  · rcases g1 with e | ⟨g, e, hg⟩
    · exact .inl (.inr (by rw [← e]; exact hi))
    · rw [e] at hi; injection hi with hi; subst hi; exact .inr hg)
/-- What a writing call leaves. -/
def Wrt (wb : Nat) (og : Option Nat) (L : List By) (w : World) (e : Ending) (w' : World) : Prop := (∃ r, e = .returned r) ∧ ∃ og', Wr wb og' (le L) (8 * L.length) w' ∧ Fr (fun k => k = wb ∨ og = some k) w w' ∧ Went og og' w
set_option maxHeartbeats 8000000 in
theorem wpiece_any (h : Wr wb og (le L) (8 * L.length) w) (hL : L.length ≤ 100000000) (last : Bool) (a : Option Addr) (c : Nat) (b : List By) (hb : Sl (fun k => k = wb ∨ og = some k ∨ w.heap.size ≤ k) (.slice a b.length c) b w) (hbl : b.length ≤ 65535) :
    Calls Tryz.prog 66 #[.pointer (some ⟨wb, 0, none⟩), .slice a b.length c, .bool last] w (Wrt wb og (L ++ (shd (if last then 1 else 0) b.length ++ b)) w) := by
  obtain ⟨x, hx⟩ : ∃ x : Nat, x = if last then 1 else 0 := ⟨_, rfl⟩
  have hx1 : x < 2 := by rw [hx]; split <;> omega
  rw [← hx]
  obtain ⟨P, hP⟩ : ∃ P : Ending → World → Prop, P = Wrt wb og (L ++ (shd x b.length ++ b)) w := ⟨_, rfl⟩
  rw [← hP]
  have HH : Hid (Calls Tryz.prog 69 #[.pointer (some ⟨wb, 0, none⟩), .int .u32 0, .bool last] w fun e w1 => (∃ r, e = .returned r) ∧ Hid (Calls Tryz.prog 102 #[.pointer (some ⟨wb, 0, none⟩)] w1 fun e w2 => (∃ r, e = .returned r) ∧ Hid (Calls Tryz.prog 103 #[.pointer (some ⟨wb, 0, none⟩), .int .u32 b.length, .int .i64 16] w2 fun e w3 => e = .returned (.int .i64 0) ∧ Hid (Calls Tryz.prog 103 #[.pointer (some ⟨wb, 0, none⟩), .int .u32 (65535 - b.length : Nat), .int .i64 16] w3 fun e w4 => e = .returned (.int .i64 0) ∧ Hid (Calls Tryz.prog 104 #[.pointer (some ⟨wb, 0, none⟩), .slice a b.length c] w4 fun e w5 => (∃ r, e = .returned r) ∧ Hid (∀ r, P (.returned r) w5)))))) := by
    show Calls _ _ _ _ _
    refine (whead_any h hL last).mono ?_
    rintro e w1 ⟨he1, og1, h1, f1, g1⟩
    refine ⟨he1, ?_⟩
    rw [← hx] at h1
    show Calls _ _ _ _ _
    refine (walign_any h1 (by omega)).mono ?_
    rintro e w2 ⟨he2, h2, f2⟩
    refine ⟨he2, ?_⟩
    have hu : up8 (8 * L.length + 3) = 8 * L.length + 8 * 1 := by unfold up8; omega
    rw [hu] at h2
    have k2 := wr_lows h2 (k := 1) (by omega) rfl
    have l2 : (L ++ lows x 1).length = L.length + 1 := by rw [List.length_append, lows_length]
    have s1 := f1.size
    have s2 := f2.size
    have F2 : Fr (fun k => k = wb ∨ og = some k) w w2 := f1.then f2 (fun i hi => .inl (.inl hi))
    show Calls _ _ _ _ _
    refine (bput_yes k2 (by omega) b.length (by omega) 16 (by decide) (by omega)).mono ?_
    rintro e w3 ⟨rfl, og3, h3, f3, g3⟩
    refine ⟨rfl, ?_⟩
    have k3 := wr_lows h3 (k := 2) (by omega) (by omega)
    have l3 : ((L ++ lows x 1) ++ lows b.length 2).length = L.length + 3 := by rw [List.length_append, l2, lows_length]
    have s3 := f3.size
    have F3 := fr_went F2 g1 f3
    have G3 : Went og og3 w := g1.trans g3 (by omega)
    show Calls _ _ _ _ _
    refine (bput_yes k3 (by omega) (65535 - b.length) (by omega) 16 (by decide) (by omega)).mono ?_
    rintro e w4 ⟨rfl, og4, h4, f4, g4⟩
    refine ⟨rfl, ?_⟩
    have k4 := wr_lows h4 (k := 2) (by omega) (by omega)
    have l4 : (((L ++ lows x 1) ++ lows b.length 2) ++ lows (65535 - b.length) 2).length = L.length + 5 := by rw [List.length_append, l3, lows_length]
    have s4 := f4.size
    have F4 := fr_went F3 G3 f4
    have G4 : Went og og4 w := G3.trans g4 (by omega)
    have hb4 : Sl (fun k => k = wb ∨ og = some k ∨ w.heap.size ≤ k) (.slice a b.length c) b w4 := hb.kept F4 (fun k hk => by rcases hk with hk | hk; exact .inl hk; exact .inr (.inl hk))
    show Calls _ _ _ _ _
    refine (wadd_any k4 (by omega) _ b (hb4.mono (fun k hk => .inl hk)) (by omega)).mono ?_
    rintro e w5 ⟨he5, og5, h5, f5, g5⟩
    refine ⟨he5, fun r => ?_⟩
    rw [hP]
    have hu8 : up8 (8 * (((L ++ lows x 1) ++ lows b.length 2) ++ lows (65535 - b.length) 2).length) = 8 * (((L ++ lows x 1) ++ lows b.length 2) ++ lows (65535 - b.length) 2).length := by unfold up8; omega
    rw [hu8] at h5
    have k5 := wr_bytes h5 rfl
    have F5 := fr_went F4 G4 f5
    have G5 : Went og og5 w := G4.trans g5 (by omega)
    have e : L ++ (shd x b.length ++ b) = (((L ++ lows x 1) ++ lows b.length 2) ++ lows (65535 - b.length) 2) ++ b := by simp [shd]
    rw [e]
    exact ⟨⟨r, rfl⟩, og5, k5, F5, G5⟩
  have e1 := xor_full16 b.length (by omega)
  have e2 : IntKind.u32.wrap (b.length : Int) = (b.length : Int) := by rw [IntKind.wrap_u32]; omega
  clear hP h hb hx hx1
  obtain ⟨m, hm⟩ : ∃ m, m = 65535 - b.length := ⟨_, rfl⟩
  rw [← hm] at HH e1
  clear hm
  generalize b.length = N at *
  go_enter Tryz.func66, Tryz.ntmps66
  go_wp2_with (first
    | (go_at_call 69; with_reducible refine HH.out.mono ?_; rintro e w1 ⟨⟨r1, rfl⟩, H1⟩)
    | (go_at_call 102; with_reducible refine H1.out.mono ?_; rintro e w2 ⟨⟨r2, rfl⟩, H2⟩)
    | (go_at_call 103; with_reducible refine H2.out.mono ?_; rintro e w3 ⟨rfl, H3⟩)
    | (go_at_call 103; with_reducible refine H3.out.mono ?_; rintro e w4 ⟨rfl, H4⟩)
    | (go_at_call 104; with_reducible refine H4.out.mono ?_; rintro e w5 ⟨⟨r5, rfl⟩, H5⟩))
  all_goals (first | exact H5.out _ | (go_end0; exact H5.out _))
end Go.Proofs.YtpjnbhflnbhnoaaGreatDoor

namespace Go.Proofs.YtpjnbhflnbhnoaaGreatDoor
open Go.RowKit
set_option linter.unusedVariables false
variable {wb : Nat} {og : Option Nat} {L : List By} {w : World}
/-- The first i whole pieces as stored blocks. -/
def stP (b : List By) : Nat → List By
  | 0 => []
  | i + 1 => stP b i ++ (shd 0 65535 ++ (b.drop (65535 * i)).take 65535)
theorem stP_len (b : List By) : ∀ i, 65535 * i ≤ b.length → (stP b i).length = 65540 * i
  | 0, _ => rfl
  | i + 1, h => by
    have ih := stP_len b i (by omega)
    simp only [stP, shd, List.length_append, lows_length, ih, List.length_take, List.length_drop]
    omega
/-- How many whole pieces there are ahead of the last one. -/
def stN (n : Nat) : Nat := (n - 1) / 65535
/-- The stream of stored blocks. -/
def stE (b : List By) (x : Nat) : List By := stP b (stN b.length) ++ (shd x (b.length - 65535 * stN b.length) ++ b.drop (65535 * stN b.length))
/-- How the loop stands. -/
def SpI (wb : Nat) (og : Option Nat) (L b : List By) (w : World) (i : Nat) (a : Option Addr) (c : Nat) (wr : World) : Prop :=
  ∃ og', Wr wb og' (le (L ++ stP b i)) (8 * (L ++ stP b i).length) wr ∧ Fr (fun k => k = wb ∨ og = some k) w wr ∧ Went og og' w ∧ Sl (fun k => k = wb ∨ og = some k ∨ w.heap.size ≤ k) (.slice a (b.length - 65535 * i) c) (b.drop (65535 * i)) wr
theorem sl_part {X : Nat → Prop} {a : Option Addr} {n c : Nat} {l : List By} (h : Sl X (.slice a n c) l w) (hn : 0 < n) : ∃ g o, a = some ⟨g, o, none⟩ ∧ n ≤ c ∧ c < 9223372036854775808 ∧ ∀ f k, f + k ≤ n → Sl X (.slice (some ⟨g, o + f, none⟩) k (c - f)) ((l.drop f).take k) w := by
  rcases h with ⟨a', e, rfl⟩ | ⟨g, hg, o, c', e, e1, e2, e3⟩
  · injection e with _ e; omega
  · injection e with ea en ec
    subst ec
    refine ⟨g, o, ea, by omega, e2, fun f k hfk => .inr ⟨g, hg, o + f, c - f, ?_, ?_, by omega, (e3.drop f).take k⟩⟩
    · rw [List.length_take, List.length_drop, Nat.min_eq_left (by omega)]
    · rw [List.length_take, List.length_drop, Nat.min_eq_left (by omega)]; omega
set_option maxHeartbeats 8000000 in
set_option maxRecDepth 100000 in
theorem wstored_any (h : Wr wb og (le L) (8 * L.length) w) (hL : L.length ≤ 1000000) (last : Bool) (a : Option Addr) (c : Nat) (b : List By) (hb : Sl (fun k => k = wb ∨ og = some k ∨ w.heap.size ≤ k) (.slice a b.length c) b w) (hbl : b.length ≤ 4194304) :
    Calls Tryz.prog 47 #[.pointer (some ⟨wb, 0, none⟩), .slice a b.length c, .bool last] w (Wrt wb og (L ++ stE b (if last then 1 else 0)) w) := by
  obtain ⟨P, hP⟩ : ∃ P : Ending → World → Prop, P = Wrt wb og (L ++ stE b (if last then 1 else 0)) w := ⟨_, rfl⟩
  rw [← hP]
  have HI0 : Hid (SpI wb og L b w 0 a c w) := ⟨og, by simpa [stP] using h, Fr.refl _ _, Went.refl _ _, by simpa using hb⟩
  have HST : Hid (∀ i a c wr, SpI wb og L b w i a c wr → 65535 * i + 65535 < b.length → ∃ g o, a = some ⟨g, o, none⟩ ∧ 65535 < c ∧ c < 9223372036854775808 ∧ Hid (Calls Tryz.prog 66 #[.pointer (some ⟨wb, 0, none⟩), .slice (some ⟨g, o, none⟩) 65535 c, .bool false] wr fun e w1 => (∃ r, e = .returned r) ∧ Hid (SpI wb og L b w (i + 1) (some ⟨g, o + 65535, none⟩) (c - 65535) w1))) := fun i a c wr hI hi => by
    obtain ⟨og', q1, q2, q3, q4⟩ := hI
    obtain ⟨g, o, rfl, h1, h2, h3⟩ := sl_part q4 (by omega)
    refine ⟨g, o, rfl, by omega, h2, ?_⟩
    have hl := stP_len b i (by omega)
    have hs := q2.size
    have p1 := h3 0 65535 (by omega)
    rw [List.drop_zero, Nat.add_zero, Nat.sub_zero] at p1
    have p2 := h3 65535 (b.length - 65535 * (i + 1)) (by omega)
    obtain ⟨z, hz⟩ : ∃ z, z = (b.drop (65535 * i)).take 65535 := ⟨_, rfl⟩
    have hzl : z.length = 65535 := by rw [hz, List.length_take, List.length_drop]; omega
    rw [← hz] at p1
    have e0 : (List.drop 65535 (b.drop (65535 * i))).take (b.length - 65535 * (i + 1)) = b.drop (65535 * (i + 1)) := by
      rw [List.drop_drop, show 65535 * i + 65535 = 65535 * (i + 1) by omega]
      exact List.take_of_length_le (by rw [List.length_drop]; omega)
    rw [e0] at p2
    show Calls _ _ _ _ _
    have hcall := wpiece_any q1 (by rw [List.length_append]; omega) false (some ⟨g, o, none⟩) c z (by
      rw [hzl]
      refine p1.mono (fun k hk => ?_)
      rcases hk with hk | hk | hk
      · exact .inl hk
      · rcases q3 with e | ⟨g', e, hg'⟩
        · exact .inr (.inl (by rw [← e]; exact hk))
        · rw [e] at hk; injection hk with hk; subst hk; exact .inr (.inr hg')
      · exact .inr (.inr (by omega))) (by omega)
    rw [hzl] at hcall
    refine hcall.mono ?_
    rintro e w1 ⟨he, og2, r1, r2, r3⟩
    simp only [Bool.false_eq_true, if_false] at r1
    refine ⟨he, og2, ?_, fr_went q2 q3 r2, q3.trans r3 hs, ?_⟩
    · have e : L ++ stP b (i + 1) = L ++ stP b i ++ (shd 0 65535 ++ z) := by rw [stP, hz, List.append_assoc]
      rw [e]; exact r1
    · refine p2.kept r2 (fun k hk => ?_)
      rcases hk with hk | hk
      · exact .inl hk
      · rcases q3 with e | ⟨g', e, hg'⟩
        · exact .inr (.inl (by rw [← e]; exact hk))
        · rw [e] at hk; injection hk with hk; subst hk; exact .inr (.inr hg')
  have HEND : Hid (∀ i a c wr, SpI wb og L b w i a c wr → i = stN b.length → ¬ (65535 : Int) < ((b.length - 65535 * i : Nat) : Int) → Hid (Calls Tryz.prog 66 #[.pointer (some ⟨wb, 0, none⟩), .slice a (b.length - 65535 * i) c, .bool last] wr fun e w1 => (∃ r, e = .returned r) ∧ Hid (∀ r, P (.returned r) w1))) := fun i a c wr hI hi hlt => by
    obtain ⟨og', q1, q2, q3, q4⟩ := hI
    have hib : 65535 * i ≤ b.length := by rw [hi]; unfold stN; omega
    have hl := stP_len b i hib
    have hs := q2.size
    obtain ⟨z, hz⟩ : ∃ z, z = b.drop (65535 * i) := ⟨_, rfl⟩
    have hzl : z.length = b.length - 65535 * i := by rw [hz, List.length_drop]
    rw [← hz] at q4
    show Calls _ _ _ _ _
    have hcall := wpiece_any q1 (by rw [List.length_append]; omega) last a c z (by
      rw [hzl]
      refine q4.mono (fun k hk => ?_)
      rcases hk with hk | hk | hk
      · exact .inl hk
      · rcases q3 with e | ⟨g', e, hg'⟩
        · exact .inr (.inl (by rw [← e]; exact hk))
        · rw [e] at hk; injection hk with hk; subst hk; exact .inr (.inr hg')
      · exact .inr (.inr (by omega))) (by omega)
    rw [hzl] at hcall
    refine hcall.mono ?_
    rintro e w1 ⟨he, og2, r1, r2, r3⟩
    refine ⟨he, fun r => ?_⟩
    rw [hP]
    have e : L ++ stE b (if last then 1 else 0) = L ++ stP b i ++ (shd (if last then 1 else 0) (b.length - 65535 * i) ++ z) := by
      unfold stE
      rw [← hi, hz, List.append_assoc]
    rw [e]
    exact ⟨⟨r, rfl⟩, og2, r1, fr_went q2 q3 r2, q3.trans r3 hs⟩
  clear hP h hb
  obtain ⟨N, hN⟩ : ∃ N, N = b.length := ⟨_, rfl⟩
  rw [← hN] at hbl HST HEND ⊢
  have HNN : Hid (N = b.length) := hN
  clear hN
  go_enter Tryz.func47, Tryz.ntmps47
  go_wp2_with fail
  go_loopg [1] 70 (fun kx v wr => ∃ (i : Nat) (a : Option Addr) (c M : Nat), 65535 * i ≤ N ∧ (i = 0 ∨ 65535 * i < N) ∧ 65 - i ≤ kx ∧ M + 65535 * i = N ∧ v = .slice a M c ∧ Hid (SpI wb og L b w i a c wr))
  case atStart => exact ⟨0, a, c, N, by omega, .inl rfl, by omega, by omega, rfl, HI0⟩
  case round =>
    obtain ⟨i, a, c, M, hi, hi0, hkx, hM, rfl, HI⟩ := hrel
    clear HI0
    have hM2 : M = N - 65535 * i := by omega
    by_cases hlt : 65535 < M
    · obtain ⟨g, o, rfl, hc1, hc2, HC⟩ := HST.out i a c wr HI.out (by omega)
      have hz : (65535 : Int) < (M : Int) := by omega
      have hz2 : (65535 : Int) ≤ (M : Int) := by omega
      have hz3 : (65535 : Int) ≤ (c : Int) := by omega
      have hz4 : ¬ c ≤ 65535 := by omega
      have hz5 : (M : Int) ≤ (c : Int) := by
        obtain ⟨og', q1, q2, q3, q4⟩ := HI.out
        obtain ⟨g', o', _, h1, _⟩ := sl_part q4 (by rw [← HNN.out]; omega)
        rw [← HNN.out] at h1
        omega
      clear HI HST HEND hM2
      go_wp2_with (first | (go_at_call 66; with_reducible refine HC.out.mono ?_; rintro e w1 ⟨⟨r1, rfl⟩, H1⟩))
      go_roundg (65 - (i + 1))
      all_goals (first | omega | exact ⟨i + 1, _, _, _, by omega, .inr (by omega), by omega, by omega, rfl, H1⟩)
    · have hz : ¬ (65535 : Int) < (M : Int) := by omega
      have HE := HEND.out i a c wr HI.out (by unfold stN; omega) (by omega)
      rw [← hM2] at HE
      clear HI HST HEND hM2
      go_wp2_with (first | (go_at_call 66; with_reducible refine HE.out.mono ?_; rintro e w1 ⟨⟨r1, rfl⟩, H1⟩))
      all_goals (first | exact H1.out _ | (go_end0; exact H1.out _))
theorem wwrite_stored (h : Wr wb og (le L) (8 * L.length) w) (hL : L.length ≤ 1000000) (last : Bool) (a : Option Addr) (c : Nat) (b : List By) (hb : Sl (fun k => k = wb ∨ og = some k ∨ w.heap.size ≤ k) (.slice a b.length c) b w) (hbl : b.length ≤ 4194304) :
    Calls Tryz.prog 37 #[.pointer (some ⟨wb, 0, none⟩), .slice a b.length c, .int .i64 0, .bool last] w (Wrt wb og (L ++ stE b (if last then 1 else 0)) w) := by
  obtain ⟨P, hP⟩ : ∃ P : Ending → World → Prop, P = Wrt wb og (L ++ stE b (if last then 1 else 0)) w := ⟨_, rfl⟩
  rw [← hP]
  have HC : Hid (Calls Tryz.prog 47 #[.pointer (some ⟨wb, 0, none⟩), .slice a b.length c, .bool last] w fun e w1 => (∃ r, e = .returned r) ∧ Hid (∀ r, P (.returned r) w1)) := by
    show Calls _ _ _ _ _
    refine (wstored_any h hL last a c b hb hbl).mono ?_
    rintro e w1 ⟨he, h1⟩
    exact ⟨he, fun r => by rw [hP]; exact ⟨⟨r, rfl⟩, h1⟩⟩
  clear hP h hb
  generalize b.length = N at *
  go_enter Tryz.func37, Tryz.ntmps37
  go_wp2_with (first | (go_at_call 47; with_reducible refine HC.out.mono ?_; rintro e w1 ⟨⟨r1, rfl⟩, H1⟩))
  all_goals (first | exact H1.out _ | (go_end0; exact H1.out _))
theorem isWay0 (w : World) : Calls Tryz.prog 36 #[.int .i64 0] w fun e w1 => e = .returned (.bool true) ∧ w = w1 := by
  obtain ⟨P, hP⟩ : ∃ P : Ending → World → Prop, P = fun e w1 => e = .returned (.bool true) ∧ w = w1 := ⟨_, rfl⟩
  rw [← hP]
  have HF : Hid (P (.returned (.bool true)) w) := by rw [hP]; exact ⟨rfl, rfl⟩
  clear hP
  go_enter Tryz.func36, Tryz.ntmps36
  go_wp2
  exact HF.out
/-- Encode in the way Stored. -/
theorem dstored_any (w : World) (a : Option Addr) (c : Nat) (b : List By) (hb : Old w (.slice a b.length c) b) (hbl : b.length ≤ 4194304) :
    Calls Tryz.prog 17 #[.slice a b.length c, .int .i64 0] w fun e w' => ∃ r, e = .returned (.tuple #[r, .int .i64 0]) ∧ Mine (fun k => k < w.heap.size) r (stE b 1) w' ∧ Nw w w' := by
  obtain ⟨P, hP⟩ : ∃ P : Ending → World → Prop, P = fun e w' => ∃ r, e = .returned (.tuple #[r, .int .i64 0]) ∧ Mine (fun k => k < w.heap.size) r (stE b 1) w' ∧ Nw w w' := ⟨_, rfl⟩
  rw [← hP]
  have HW : Hid (Calls Tryz.prog 36 #[.int .i64 0] w fun e w1 => e = .returned (.bool true) ∧ w = w1) := isWay0 w
  have hN0 : Nw w (w.alloc (.cells #[.slice none 0 0, .int .i64 0] 64)) := (Fr.refl _ _).alloc _
  have HC : Hid (Calls Tryz.prog 37 #[.pointer (some ⟨w.heap.size, 0, none⟩), .slice a b.length c, .int .i64 0, .bool true] (w.alloc (.cells #[.slice none 0 0, .int .i64 0] 64)) fun e w1 => (∃ r, e = .returned r) ∧ Hid (Calls Tryz.prog 38 #[.pointer (some ⟨w.heap.size, 0, none⟩)] w1 fun e w2 => ∃ r, e = .returned r ∧ Hid (P (.returned (.tuple #[r, .int .i64 0])) w2))) := by
    show Calls _ _ _ _ _
    have hWr : Wr w.heap.size none (le []) (8 * ([] : List By).length) (w.alloc (.cells #[.slice none 0 0, .int .i64 0] 64)) := ⟨⟨.slice none 0 0, new_heap _ _, ⟨rfl, rfl⟩⟩, by simp, by simp [le]⟩
    have hsz : (w.alloc (.cells #[.slice none 0 0, .int .i64 0] 64)).heap.size = w.heap.size + 1 := by simp
    refine (wwrite_stored hWr (by simp) true a c b ((hb.nw hN0).mono (fun k hk => ?_)) hbl).mono ?_
    · rcases hk with hk | hk | hk
      · omega
      · cases hk
      · omega
    · rintro e w1 ⟨he, og1, h1, f1, g1⟩
      refine ⟨he, ?_⟩
      simp only [if_true, List.nil_append] at h1
      have hN1 : Nw w w1 := Fr.then hN0 f1 (fun i hi => by
        rcases hi with hi | hi
        · exact .inr (by omega)
        · cases hi)
      have hle : (stE b 1).length ≤ 10000000 := by
        have hs : 65535 * stN b.length ≤ b.length := by unfold stN; omega
        have hsn : stN b.length ≤ 64 := by unfold stN; omega
        have := stP_len b (stN b.length) hs
        unfold stE
        simp only [shd, List.length_append, lows_length, List.length_drop, this]
        omega
      show Calls _ _ _ _ _
      refine (wdone_any h1 (by omega)).mono ?_
      rintro e w2 ⟨r, rfl, hM, hN2⟩
      refine ⟨r, rfl, ?_⟩
      show P _ _
      rw [hP]
      have e8 : (8 * (stE b 1).length + 7) / 8 = (stE b 1).length := by omega
      rw [e8, lows_le] at hM
      have s1 := hN1.size
      refine ⟨r, rfl, ?_, hN1.trans hN2⟩
      rcases hM with hM | ⟨g, hg, hO⟩
      · exact .inl hM
      · exact .inr ⟨g, by omega, hO⟩
  have hz : ¬ (4194304 : Int) < (b.length : Int) := by omega
  clear hP hb hN0
  generalize b.length = N at *
  go_enter Tryz.func17, Tryz.ntmps17
  go_wp2_with (first
    | (go_at_call 36; with_reducible refine HW.out.mono ?_; rintro e w1 ⟨rfl, rfl⟩)
    | (go_at_call 37; with_reducible refine HC.out.mono ?_; rintro e w1 ⟨⟨r1, rfl⟩, H1⟩)
    | (go_at_call 38; with_reducible refine H1.out.mono ?_; rintro e w2 ⟨r2, rfl, H2⟩))
  exact H2.out
end Go.Proofs.YtpjnbhflnbhnoaaGreatDoor

import Derived.Test.YtpjnbhflnbhnoaaGreatDoorWai
import Derived.Handy
import Derived.Lib.MinMax
namespace Go.Proofs.YtpjnbhflnbhnoaaGreatDoor
open Go.RowKit
set_option linter.unusedVariables false
theorem row_cell {w : World} {rb : Nat} {a : Array Value} {T : Nat} (h : w.heap[rb]? = some (.cells a T)) (j : Nat) (v : Value) (hv : a[j]? = some v) : w.cell? ⟨rb, j, none⟩ = some v ∧ w.frozen? ⟨rb, j, none⟩ = false := by
  constructor <;> simp [World.cell?, World.frozen?, h, hv]
theorem row_set {w : World} {rb : Nat} {a : Array Value} {T : Nat} (h : w.heap[rb]? = some (.cells a T)) (j : Nat) (v : Value) : (w.setCell ⟨rb, j, none⟩ v).heap[rb]? = some (.cells (a.setIfInBounds j v) T) := by
  simp [World.setCell, Array.getElem?_modify, h]
theorem row_kept {w w' : World} {rb : Nat} {x : Obj} {X : Nat → Prop} (h : w.heap[rb]? = some x) (f : Fr X w w') (hx : ¬ X rb) : w'.heap[rb]? = some x := (f.block rb (Array.getElem?_eq_some_iff.1 h).1 hx).trans h
/-- A reader in memory (the program's and the document's lie alike): its list, in no block of K, and its place. -/
structure Rr (T : Nat) (K : Nat → Prop) (rb : Nat) (v : Value) (b : List By) (p : Nat) (w : World) : Prop where
  row : w.heap[rb]? = some (.cells #[v, .int .i64 p] T)
  sl : Sl K v b w
  kr : K rb
  bl : b.length ≤ 200000000000000
variable {T : Nat} {K : Nat → Prop} {rb : Nat} {v : Value} {b : List By} {p : Nat} {w : World}
theorem Rr.kept {X : Nat → Prop} {w' : World} (h : Rr T K rb v b p w) (f : Fr X w w') (hr : ¬ X rb) (hx : ∀ g, X g → K g) : Rr T K rb v b p w' :=
  ⟨row_kept h.row f hr, h.sl.kept f hx, h.kr, h.bl⟩
theorem Rr.nw {w' : World} (h : Rr T K rb v b p w) (f : Nw w w') : Rr T K rb v b p w' := h.kept f (fun h => h) (fun _ h => h.elim)
theorem Rr.lt (h : Rr T K rb v b p w) : rb < w.heap.size := (Array.getElem?_eq_some_iff.1 h.row).1
theorem Rr.cells (h : Rr T K rb v b p w) : w.cell? ⟨rb, 0, none⟩ = some v ∧ w.cell? ⟨rb, 1, none⟩ = some (.int .i64 p) ∧ w.frozen? ⟨rb, 1, none⟩ = false :=
  ⟨(row_cell h.row 0 _ rfl).1, (row_cell h.row 1 _ rfl).1, (row_cell h.row 1 _ rfl).2⟩
theorem Rr.go (h : Rr T K rb v b p w) (q : Nat) (z : Int) (hz : z = q) : Rr T K rb v b q (w.setCell ⟨rb, 1, none⟩ (.int .i64 z)) ∧ Fr (fun k => k = rb) w (w.setCell ⟨rb, 1, none⟩ (.int .i64 z)) := by
  subst hz
  have f : Fr (fun k => k = rb) w (w.setCell ⟨rb, 1, none⟩ (.int .i64 q)) := (Fr.refl _ _).setCell _ _ (.inl rfl)
  exact ⟨⟨row_set h.row 1 _, h.sl.kept f (fun g hg => by subst hg; exact h.kr), h.kr, h.bl⟩, f⟩
theorem Sl.in2 {X : Nat → Prop} (h : Sl X v b w) (hs : b.length ≤ 200000000000000) : ∃ a c, v = .slice a b.length c ∧ In a c b w ∧ (c = 0 ∨ ∃ g o, a = some ⟨g, o, none⟩) := by
  rcases h with ⟨a, rfl, rfl⟩ | ⟨g, _, o, c, rfl, h1, h2, h3⟩
  · exact ⟨a, 0, rfl, ⟨by simp, by simp, by simp, fun h => absurd rfl h⟩, .inl rfl⟩
  · exact ⟨_, c, rfl, ⟨h1, h2, hs, fun _ => ⟨g, o, rfl, h3⟩⟩, .inr ⟨g, o, rfl⟩⟩
theorem Rr.form (h : Rr T K rb v b p w) : ∃ a c, v = .slice a b.length c ∧ b.length ≤ c ∧ c < 9223372036854775808 ∧ In a c b w ∧ (c = 0 ∨ ∃ g o, a = some ⟨g, o, none⟩) := by
  obtain ⟨a, c, e, hi, hx⟩ := h.sl.in2 (by have := h.bl; omega)
  exact ⟨a, c, e, hi.1, hi.2.1, hi, hx⟩
/-- The next place where a byte begins. -/
def up8 (p : Nat) : Nat := (p + 7) / 8 * 8
set_option maxHeartbeats 8000000 in
theorem aligned_any (p : Nat) (hp : p ≤ 4000000000000000) (w : World) : Calls Tryz.prog 141 #[.int .i64 p] w fun e w' => e = .returned (.int .i64 (up8 p)) ∧ w' = w := by
  obtain ⟨P, hP⟩ : ∃ P : Ending → World → Prop, P = fun e w' => e = .returned (.int .i64 (up8 p)) ∧ w' = w := ⟨_, rfl⟩
  rw [← hP]
  have HF : Hid (P (.returned (.int .i64 (up8 p))) w) := by rw [hP]; exact ⟨rfl, rfl⟩
  have hq : ((p : Int) + 7) / 8 * 8 = (up8 p : Int) := by unfold up8; omega
  clear hP
  generalize up8 p = q at *
  go_enter Tryz.func141, Tryz.ntmps141
  go_wp2
  exact HF.out
set_option maxHeartbeats 8000000 in
theorem left_any (h : Rr 181 K rb v b p w) (hp : p ≤ 8 * b.length) : Calls Tryz.prog 128 #[.pointer (some ⟨rb, 0, none⟩)] w fun e w' => e = .returned (.int .i64 (8 * b.length - p : Nat)) ∧ Nw w w' := by
  obtain ⟨P, hP⟩ : ∃ P : Ending → World → Prop, P = fun e w' => e = .returned (.int .i64 (8 * b.length - p : Nat)) ∧ Nw w w' := ⟨_, rfl⟩
  rw [← hP]
  obtain ⟨a, c, rfl, hc, hc2, hi, hca⟩ := h.form
  obtain ⟨x0, x1, _⟩ := h.cells
  have hbl := h.bl
  generalize b.length = L at *
  have hq : 8 * (L : Int) - (p : Int) = ((8 * L - p : Nat) : Int) := by omega
  have HF : Hid (∀ V, Nw w V → P (.returned (.int .i64 (8 * L - p : Nat))) V) := fun V hV => by rw [hP]; exact ⟨rfl, hV⟩
  clear hP h hi hca
  generalize 8 * L - p = q at *
  go_enter Tryz.func128, Tryz.ntmps128
  go_wp2_with fail
  go_quiet (fail)
  go_wp2_with fail
  exact HF.out _ ((Fr.refl _ _).drewN _)
theorem or_le (l : List By) (I : Nat) (b : By) (hlt : I < l.length) (hb : l[I]? = some b) (hI : I < 8) : bits .or .u64 ((le (l.take I) : Nat) : Int) (IntKind.u64.wrap ((b.toNat : Int) * 2 ^ (8 * I))) = ((le (l.take (I + 1)) : Nat) : Int) := by
  have h1 : le (l.take (I + 1)) = le (l.take I) + 256 ^ I * b.toNat := by
    rw [List.take_add_one, hb]
    simp only [Option.toList]
    rw [le_append, List.length_take, Nat.min_eq_left (by omega)]
    simp [le]
  have h2 : le (l.take I) < 256 ^ I := by
    have := le_lt (l.take I)
    rwa [List.length_take, Nat.min_eq_left (by omega)] at this
  have hbl := b.isLt
  rw [pow256] at h1 h2
  have h3 : 2 ^ (8 * I) * b.toNat < 2 ^ (8 * I) * 256 := Nat.mul_lt_mul_of_pos_left (by omega) (Nat.pow_pos (by decide))
  have h4 : 2 ^ (8 * I) * 256 ≤ 2 ^ 64 := by
    rw [show (256 : Nat) = 2 ^ 8 from rfl, ← Nat.pow_add]; exact Nat.pow_le_pow_right (by decide) (by omega)
  have e1 : IntKind.u64.wrap ((b.toNat : Int) * 2 ^ (8 * I)) = ((2 ^ (8 * I) * b.toNat : Nat) : Int) := by
    rw [IntKind.wrap_u64]
    have : ((b.toNat : Int) * 2 ^ (8 * I)) = ((2 ^ (8 * I) * b.toNat : Nat) : Int) := by push_cast; rw [Int.mul_comm]
    rw [this]; omega
  rw [e1, u64_or_nat _ _ (by omega) (by omega), Nat.or_comm, nat_join (8 * I) _ _ (Nat.mul_mod_right _ _) h2, h1]
  congr 1; omega
theorem ahead_val (b : List By) (p n : Nat) (hp : p ≤ 8 * b.length) (hn : n ≤ 32) : le ((b.drop (p / 8)).take (min (p / 8 + 5) b.length - p / 8)) / 2 ^ (p % 8) % 2 ^ n = le b / 2 ^ p % 2 ^ n := by
  have e : le b / 2 ^ p = le b / 256 ^ (p / 8) / 2 ^ (p % 8) := by
    rw [Nat.div_div_eq_div_mul, pow256, ← Nat.pow_add]; congr 2; omega
  rw [e, ← le_drop]
  by_cases h : p / 8 + 5 ≤ b.length
  · rw [show min (p / 8 + 5) b.length - p / 8 = 5 by omega, le_take]
    generalize le (b.drop (p / 8)) = X
    have hr : p % 8 < 8 := Nat.mod_lt _ (by decide)
    generalize p % 8 = r at *
    rw [show 256 ^ 5 = 2 ^ r * 2 ^ (40 - r) by rw [← Nat.pow_add]; rw [show r + (40 - r) = 40 by omega], Nat.mod_mul_right_div_self]
    apply Nat.mod_mod_of_dvd
    exact Nat.pow_dvd_pow 2 (by omega)
  · rw [List.take_of_length_le (by rw [List.length_drop]; omega)]
theorem and_low (x n : Nat) (hx : x < 18446744073709551616) (hn : n ≤ 32) : bits .and .u64 (x : Int) ((2 ^ n - 1 : Nat) : Int) = ((x % 2 ^ n : Nat) : Int) := by
  have h1 : 2 ^ n ≤ 2 ^ 32 := Nat.pow_le_pow_right (by decide) hn
  have h2 : 2 ^ n - 1 < 18446744073709551616 := by omega
  rw [u64_and _ _ (by omega) (by omega) (by omega) (by omega), Int.toNat_natCast, Int.toNat_natCast, Nat.and_two_pow_sub_one_eq_mod]
set_option maxHeartbeats 8000000 in
set_option maxRecDepth 100000 in
theorem bahead_any (h : Rr 181 K rb v b p w) (hp : p ≤ 8 * b.length) (n : Nat) (hn : n ≤ 32) : Calls Tryz.prog 129 #[.pointer (some ⟨rb, 0, none⟩), .int .i64 n] w fun e w' => e = .returned (.int .u32 (le b / 2 ^ p % 2 ^ n : Nat)) ∧ Nw w w' := by
  obtain ⟨P, hP⟩ : ∃ P : Ending → World → Prop, P = fun e w' => e = .returned (.int .u32 (le b / 2 ^ p % 2 ^ n : Nat)) ∧ Nw w w' := ⟨_, rfl⟩
  rw [← hP]
  have hval := ahead_val b p n hp hn
  have hbl := h.bl
  have hlen : (b.drop (p / 8)).length = b.length - p / 8 := List.length_drop ..
  have hpl : p / 8 ≤ b.length := by omega
  obtain ⟨f, hf⟩ : ∃ f, f = p / 8 := ⟨_, rfl⟩
  obtain ⟨r, hr⟩ : ∃ r, r = p % 8 := ⟨_, rfl⟩
  obtain ⟨t, ht⟩ : ∃ t, t = min (f + 5) b.length := ⟨_, rfl⟩
  obtain ⟨m, hm⟩ : ∃ m, m = t - f := ⟨_, rfl⟩
  obtain ⟨l, hl⟩ : ∃ l, l = (b.drop f).take m := ⟨_, rfl⟩
  rw [← hf, ← hr, ← ht, ← hm, ← hl] at hval
  have hll : l.length = m := by rw [hl, List.length_take, List.length_drop]; omega
  have hrow := h.cells
  have HW : Hid (∀ V, Nw w V → V.cell? ⟨rb, 1, none⟩ = some (.int .i64 p)) := fun V hV => (h.nw hV).cells.2.1
  have HS : Hid (Sl K v b w) := h.sl
  have HF : Hid (∀ V, Nw w V → ∀ z, z = ((le l / 2 ^ r % 2 ^ n : Nat) : Int) → P (.returned (.int .u32 z)) V) := fun V hV z hz => by rw [hP, hz, hval]; exact ⟨rfl, hV⟩
  obtain ⟨a, c, rfl, hc, hc2, hi, hca⟩ := h.form
  have HIn : Hid (∀ I, I < m → ∃ g o x, a = some ⟨g, o, none⟩ ∧ l[I]? = some x ∧ w.cell? ⟨g, o + f + I, none⟩ = some (.int .u8 x.toNat)) := by
    intro I hI
    obtain ⟨g, o, e, hcell⟩ := hi.at (f + I) (by omega)
    refine ⟨g, o, b[f + I]'(by omega), e, ?_, by rw [Nat.add_assoc]; exact hcell⟩
    have e2 : l[I]? = ((b.drop f).take m)[I]? := congrArg (fun q : List By => q[I]?) hl
    refine e2.trans ?_
    rw [List.getElem?_take, if_pos hI, List.getElem?_drop, List.getElem?_eq_getElem]
  clear hP h hval hi HS hlen
  have hll' : Hid (l.length = m) := hll
  have hfp : (p : Int) / 8 = (f : Int) := by omega
  have hrp : (p : Int) % 8 = (r : Int) := by omega
  have hmin : min ((f : Int) + 4 + 1) (b.length : Int) = (t : Int) := by omega
  have hft : f ≤ t := by omega
  have htL : t ≤ b.length := by omega
  have hr8 : r < 8 := by omega
  have hm5 : m ≤ 5 := by omega
  have htf : t - f = m := by omega
  clear hf hr ht hm hl hll
  generalize b.length = L at *
  have hle : le l < 18446744073709551616 := by
    have h1 := le_lt l
    rw [hll'.out] at h1
    have h2 : 256 ^ m ≤ 256 ^ 5 := Nat.pow_le_pow_right (by decide) hm5
    have h3 : 256 ^ 5 = 1099511627776 := by decide
    omega
  obtain ⟨x0, x1, _⟩ := hrow
  have hb0 : f ≤ 200000000000000 := by omega
  have hend : ∀ x : Nat, x < 18446744073709551616 → IntKind.u32.wrap (bits .and .u64 ((x : Int) / 2 ^ r) (IntKind.u64.wrap (IntKind.u64.wrap (2 ^ n) - 1))) = ((x / 2 ^ r % 2 ^ n : Nat) : Int) := by
    intro x hx
    have h1 : 2 ^ n ≤ 2 ^ 32 := Nat.pow_le_pow_right (by decide) hn
    have h0 : 0 < 2 ^ n := Nat.pow_pos (by decide)
    have e1 : ((2 : Int) ^ n) = ((2 ^ n : Nat) : Int) := by push_cast; rfl
    have e2 : IntKind.u64.wrap (IntKind.u64.wrap (2 ^ n) - 1) = ((2 ^ n - 1 : Nat) : Int) := by
      rw [e1, IntKind.wrap_u64, IntKind.wrap_u64]; omega
    have e3 : ((x : Int) / 2 ^ r) = ((x / 2 ^ r : Nat) : Int) := by push_cast; rfl
    rw [e2, e3, and_low _ n (Nat.lt_of_le_of_lt (Nat.div_le_self _ _) hx) hn, IntKind.wrap_u32]
    have h2 : x / 2 ^ r % 2 ^ n < 2 ^ n := Nat.mod_lt _ h0
    omega
  have HE : Hid (∀ x : Nat, x < 18446744073709551616 → IntKind.u32.wrap (bits .and .u64 ((x : Int) / 2 ^ r) (IntKind.u64.wrap (IntKind.u64.wrap (2 ^ n) - 1))) = ((x / 2 ^ r % 2 ^ n : Nat) : Int)) := hend
  clear hend
  obtain ⟨A, hA⟩ : ∃ A : Option Addr → Nat → Prop, A = fun a2 c2 => m ≤ c2 ∧ c2 < 9223372036854775808 ∧ ∀ I, I < m → ∃ g o x, a2 = some ⟨g, o, none⟩ ∧ l[I]? = some x ∧ w.cell? ⟨g, o + I, none⟩ = some (.int .u8 x.toNat) := ⟨_, rfl⟩
  have HA : Hid (A = fun a2 c2 => m ≤ c2 ∧ c2 < 9223372036854775808 ∧ ∀ I, I < m → ∃ g o x, a2 = some ⟨g, o, none⟩ ∧ l[I]? = some x ∧ w.cell? ⟨g, o + I, none⟩ = some (.int .u8 x.toNat)) := hA
  have HA0 : Hid (c = f → ∀ a2, A a2 0) := fun hcf a2 => by rw [hA]; exact ⟨by omega, by decide, fun I hI => by omega⟩
  have HA1 : Hid (∀ g o, a = some ⟨g, o, none⟩ → A (some ⟨g, o + f, none⟩) (c - f)) := fun g o e => by
    rw [hA]
    refine ⟨by omega, by omega, fun I hI => ?_⟩
    obtain ⟨g', o', x, e', h1, h2⟩ := HIn.out I hI
    rw [e] at e'
    injection e' with e'
    injection e' with e1 e2
    subst e1 e2
    exact ⟨g, o + f, x, rfl, h1, h2⟩
  have hz0 : (f : Int) ≤ (t : Int) := by omega
  have hz1 : (t : Int) ≤ (c : Int) := by omega
  clear hA HIn
  go_enter Tryz.func129, Tryz.ntmps129
  go_upto_region 4 with fail
  go_cut [30, 31, 32] (fun s n i wx => ∃ a2 c2, s = .slice a2 m c2 ∧ n = .int .i64 m ∧ i = .int .i64 0 ∧ wx = w ∧ Hid (A a2 c2))
  case first =>
    clear HF HE
    by_cases hcf : c = f
    · have HA3 : Hid (∀ a2, A a2 0) := HA0.out hcf
      clear HA HA0 HA1
      go_wp2_with fail
      go_meet
      exact ⟨_, _, rfl, rfl, rfl, rfl, HA3.out _⟩
    · rcases hca with hc0 | ⟨g, o, rfl⟩
      · omega
      · have HA4 : Hid (A (some ⟨g, o + f, none⟩) (c - f)) := HA1.out g o rfl
        clear HA HA0 HA1
        go_wp2_with fail
        go_meet
        exact ⟨_, _, rfl, rfl, rfl, rfl, HA4⟩
  case rest =>
    obtain ⟨a2, c2, rfl, rfl, rfl, rfl, HA3⟩ := hcut
    have hk := HA3.out
    rw [HA.out] at hk
    obtain ⟨hk1, hk2, hk3⟩ := hk
    have HK : Hid (∀ I, I < m → ∃ g o x, a2 = some ⟨g, o, none⟩ ∧ l[I]? = some x ∧ wc.cell? ⟨g, o + I, none⟩ = some (.int .u8 x.toNat)) := hk3
    clear HA HA0 HA1 HA3 hk3
    have hle0 : Hid (le (l.take l.length) = le l) := by rw [List.take_length]; rfl
    rw [hll'.out] at hle0
    have hlm : Hid (∀ I, I ≤ m → le (l.take I) < 18446744073709551616) := fun I hI => by
      have h1 := le_lt (l.take I)
      have h2 : 256 ^ (l.take I).length ≤ 256 ^ 5 := Nat.pow_le_pow_right (by decide) (by rw [List.length_take]; omega)
      have h3 : 256 ^ 5 = 1099511627776 := by decide
      omega
    clear hmin hft htL hz0 hz1 htf hfp hb0 hpl
    go_wp2
    go_loopg [7, 32] m (fun kx x i wr => ∃ (I : Nat), I ≤ m ∧ m - I ≤ kx ∧ i = .int .i64 I ∧ x = .int .u64 (le (l.take I)) ∧ wr = wc)
    case atStart => exact ⟨0, by omega, by omega, rfl, rfl, rfl⟩
    case round =>
      obtain ⟨I, hI, hkx, rfl, rfl, rfl⟩ := hrel
      by_cases hlt : I < m
      · obtain ⟨g, o, y, rfl, hy, hcell⟩ := HK.out I hlt
        have HO : Hid (bits .or .u64 ((le (l.take I) : Nat) : Int) (IntKind.u64.wrap ((y.toNat : Int) * 2 ^ (8 * I))) = ((le (l.take (I + 1)) : Nat) : Int)) := or_le l I y (by rw [hll'.out]; exact hlt) hy (by omega)
        have hz : (I : Int) < (m : Int) := by omega
        have hl1 := hlm.out I hI
        have hyl := y.isLt
        clear HK HF HW HE hle0 hlm hle hy
        generalize le (l.take I) = n0 at *
        go_wp2
        go_roundg (m - (I + 1))
        all_goals (first | omega | exact ⟨I + 1, by omega, by omega, rfl, by rw [HO.out], rfl⟩)
      · obtain rfl : I = m := by omega
        have hz : ¬ (I : Int) < (I : Int) := by omega
        have hl0 : le (l.take I) = le l := hle0.out
        rw [hl0]
        clear HK hle0 hlm hl0
        generalize le l = x at *
        go_wp2_with fail
        go_quiet (fail)
        go_wp2_with fail
        refine HF.out _ ((Fr.refl _ _).drewN _) _ ?_
        have := HE.out x hle
        rw [← this, IntKind.wrap_u32]
end Go.Proofs.YtpjnbhflnbhnoaaGreatDoor

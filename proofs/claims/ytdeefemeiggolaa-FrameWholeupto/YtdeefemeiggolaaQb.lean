import Derived.Test.YtdeefemeiggolaaQa
namespace Go.Proofs.Ytdeefemeiggolaa
open Go.RowKit
set_option linter.unusedVariables false

/-! ### Turning -/
theorem and_low (n k : Nat) (hk : k ≤ 64) (hn : n < 2 ^ k) : bits .and .u64 (n : Int) ((2 ^ k - 1 : Nat) : Int) = n := by
  have h64 : (2 : Nat) ^ k ≤ 2 ^ 64 := Nat.pow_le_pow_right (by decide) hk
  rw [show (2 : Nat) ^ 64 = 18446744073709551616 from rfl] at h64
  rw [u64_and_nat n _ (by omega) (by omega), Nat.and_two_pow_sub_one_eq_mod, Nat.mod_eq_of_lt hn]
theorem i_rot32 (x : BitVec 32) (n : Nat) (hn' : n < 32) : bits .or .u32 ((x.toNat : Int) * 2 ^ n % 4294967296) ((x.toNat : Int) / 2 ^ (32 - n)) = (x.rotateLeft n).toNat := by
  have := x.isLt
  rw [rotl x n hn']
  have e1 : ((x.toNat : Int) * 2 ^ n % 4294967296) = ((x.toNat * 2 ^ n % 4294967296 : Nat) : Int) := by simp
  have e2 : ((x.toNat : Int) / 2 ^ (32 - n)) = ((x.toNat / 2 ^ (32 - n) : Nat) : Int) := by simp
  rw [e1, e2, u32_or_nat _ _ (Nat.mod_lt _ (by decide)) (Nat.lt_of_le_of_lt (Nat.div_le_self _ _) this)]
theorem i_rot64 (x : BitVec 64) (n : Nat) (hn' : n < 64) : bits .or .u64 (IntKind.u64.wrap ((x.toNat : Int) * 2 ^ n)) ((x.toNat : Int) / 2 ^ (64 - n)) = (x.rotateLeft n).toNat := by
  have := x.isLt
  rw [IntKind.wrap_u64, rotl x n hn']
  have e1 : ((x.toNat : Int) * 2 ^ n % 18446744073709551616) = ((x.toNat * 2 ^ n % 18446744073709551616 : Nat) : Int) := by simp
  have e2 : ((x.toNat : Int) / 2 ^ (64 - n)) = ((x.toNat / 2 ^ (64 - n) : Nat) : Int) := by simp
  rw [e1, e2, u64_or_nat _ _ (Nat.mod_lt _ (by decide)) (Nat.lt_of_le_of_lt (Nat.div_le_self _ _) this)]
theorem i_rrot32 (x : BitVec 32) (n : Nat) (hn' : n < 32) : ((x.toNat : Int) * 2 ^ n % 4294967296 + (x.toNat : Int) / 2 ^ (32 - n)) % 4294967296 = (x.rotateLeft n).toNat := by
  have hl := (x.rotateLeft n).isLt
  have := rotl_add x n hn'
  rw [show (2 : Nat) ^ 32 = 4294967296 from rfl] at this hl
  have e1 : ((x.toNat : Int) * 2 ^ n) = ((x.toNat * 2 ^ n : Nat) : Int) := by simp
  have e2 : ((x.toNat : Int) / 2 ^ (32 - n)) = ((x.toNat / 2 ^ (32 - n) : Nat) : Int) := by simp
  rw [e1, e2]
  generalize x.toNat * 2 ^ n = A at *
  generalize x.toNat / 2 ^ (32 - n) = B at *
  omega
theorem i_rrot64 (x : BitVec 64) (n : Nat) (hn' : n < 64) : ((x.toNat : Int) * 2 ^ n % 18446744073709551616 + (x.toNat : Int) / 2 ^ (64 - n)) % 18446744073709551616 = (x.rotateLeft n).toNat := by
  have hl := (x.rotateLeft n).isLt
  have := rotl_add x n hn'
  rw [show (2 : Nat) ^ 64 = 18446744073709551616 from rfl] at this hl
  have e1 : ((x.toNat : Int) * 2 ^ n) = ((x.toNat * 2 ^ n : Nat) : Int) := by simp
  have e2 : ((x.toNat : Int) / 2 ^ (64 - n)) = ((x.toNat / 2 ^ (64 - n) : Nat) : Int) := by simp
  rw [e1, e2]
  generalize x.toNat * 2 ^ n = A at *
  generalize x.toNat / 2 ^ (64 - n) = B at *
  omega
theorem rot32_at (x : BitVec 32) (n : Nat) (z : Int) (hz : z = x.toNat) (hn : 0 < n) (hn' : n < 32) (w : World) : Calls Try.prog 84 #[.int .u32 z, .int .i64 n] w fun e w' => e = .returned (.int .u32 (x.rotateLeft n).toNat) ∧ Nw w w' := by
  subst hz
  have hb : bits .and .u64 (n : Int) 31 = n := and_low n 5 (by decide) hn'
  go_enter Try.func84, Try.ntmps84
  go_wp2
  go_ret
  exact ⟨congrArg (fun z => Ending.returned (.int .u32 z)) (i_rot32 x n hn'), Fr.refl _ _⟩
theorem rrot32_at (x : BitVec 32) (n : Nat) (z : Int) (hz : z = x.toNat) (hn : 0 < n) (hn' : n < 32) (w : World) : Calls Try.prog 61 #[.int .u32 z, .int .i64 n] w fun e w' => e = .returned (.int .u32 (x.rotateLeft n).toNat) ∧ Nw w w' := by
  subst hz
  go_enter Try.func61, Try.ntmps61
  go_wp2_with fail
  go_quiet (fail)
  go_wp2
  go_ret
  exact ⟨congrArg (fun z => Ending.returned (.int .u32 z)) (i_rrot32 x n hn'), (Fr.refl _ _).drewN _⟩
/-! ### Words -/
theorem i_or32 (a b c d : By) : bits .or .u32 (bits .or .u32 (bits .or .u32 (a.toNat : Int) ((b.toNat : Int) * 256)) ((c.toNat : Int) * 65536)) ((d.toNat : Int) * 16777216) = ((a.toNat + b.toNat * 256 + c.toNat * 65536 + d.toNat * 16777216 : Nat) : Int) := by
  have ha := a.isLt; have hb := b.isLt; have hc := c.isLt; have hd := d.isLt
  have e1 : ((b.toNat : Int) * 256) = ((b.toNat * 256 : Nat) : Int) := by simp
  have e2 : ((c.toNat : Int) * 65536) = ((c.toNat * 65536 : Nat) : Int) := by simp
  have e3 : ((d.toNat : Int) * 16777216) = ((d.toNat * 16777216 : Nat) : Int) := by simp
  rw [e1, e2, e3, u32_or_nat _ _ (by omega) (by omega), Nat.or_comm, nat_join 8 _ _ (by omega) (by omega), u32_or_nat _ _ (by omega) (by omega), Nat.or_comm, nat_join 16 _ _ (by omega) (by omega), u32_or_nat _ _ (by omega) (by omega), Nat.or_comm, nat_join 24 _ _ (by omega) (by omega)]
  congr 1; omega
theorem i_or64 (a b : BitVec 32) : bits .or .u64 (a.toNat : Int) ((b.toNat : Int) * 4294967296) = ((a.toNat + b.toNat * 4294967296 : Nat) : Int) := by
  have ha := a.isLt; have hb := b.isLt
  have e1 : ((b.toNat : Int) * 4294967296) = ((b.toNat * 4294967296 : Nat) : Int) := by simp
  rw [e1, u64_or_nat _ _ (by omega) (by omega), Nat.or_comm, nat_join 32 _ _ (by omega) (by omega)]
  congr 1; omega
theorem wrap_b32 (A : BitVec 32) : IntKind.u64.wrap (A.toNat : Int) = A.toNat := by
  have := A.isLt
  rw [IntKind.wrap_u64]; omega
theorem wrap_b32s (A : BitVec 32) : IntKind.u64.wrap ((A.toNat : Int) * 4294967296) = (A.toNat : Int) * 4294967296 := by
  have := A.isLt
  rw [IntKind.wrap_u64]; omega
theorem low32_any (g : Nat) (v : Value) (l : List By) (w : World) (h : SlB g v l w) (hl : 4 ≤ l.length) : Calls Try.prog 85 #[v] w fun e w' => e = .returned (.int .u32 (lo32 l).toNat) ∧ Nw w w' := by
  obtain ⟨o, k, rfl, hk, hk2, hr⟩ := h
  obtain ⟨a, b, c, d, ht, g0, g1, g2, g3⟩ := take4 l hl
  have h0 := hr.at _ _ g0; have h1 := hr.at _ _ g1; have h2 := hr.at _ _ g2; have h3 := hr.at _ _ g3
  rw [Nat.add_zero] at h0
  have hz := lo32_nat l a b c d ht
  generalize l.length = n at *
  clear hr ht g0 g1 g2 g3
  have e : Hid (((lo32 l).toNat : Int) = ((a.toNat + b.toNat * 256 + c.toNat * 65536 + d.toNat * 16777216 : Nat) : Int)) := by rw [hz]; exact rfl
  clear hz
  go_enter Try.func85, Try.ntmps85
  go_wp2_with fail
  go_quiet (fail)
  go_wp2
  go_ret
  exact ⟨congrArg (fun z => Ending.returned (.int .u32 z)) ((i_or32 a b c d).trans e.out.symm), (Fr.refl _ _).drewN _⟩
theorem rlow32_any (g : Nat) (v : Value) (l : List By) (w : World) (h : SlB g v l w) (hl : 4 ≤ l.length) : Calls Try.prog 62 #[v] w fun e w' => e = .returned (.int .u32 (lo32 l).toNat) ∧ Nw w w' := by
  obtain ⟨o, k, rfl, hk, hk2, hr⟩ := h
  obtain ⟨a, b, c, d, ht, g0, g1, g2, g3⟩ := take4 l hl
  have h0 := hr.at _ _ g0; have h1 := hr.at _ _ g1; have h2 := hr.at _ _ g2; have h3 := hr.at _ _ g3
  rw [Nat.add_zero] at h0
  have hz := lo32_nat l a b c d ht
  generalize l.length = n at *
  clear hr ht g0 g1 g2 g3
  have e : Hid (((lo32 l).toNat : Int) = ((a.toNat + b.toNat * 256 + c.toNat * 65536 + d.toNat * 16777216 : Nat) : Int)) := by rw [hz]; exact rfl
  clear hz
  go_enter Try.func62, Try.ntmps62
  go_wp2_with fail
  go_quiet (fail)
  go_wp2
  go_ret
  exact ⟨congrArg (fun z => Ending.returned (.int .u32 z)) (by have := e.out; have ha := a.isLt; have hb := b.isLt; have hc := c.isLt; have hd := d.isLt; omega), (Fr.refl _ _).drewN _⟩
theorem SlB.drop {g : Nat} {o n c k : Nat} {l : List By} {w : World} (hr : Rd g o l w) (hk : k ≤ l.length) (hc : l.length ≤ c) (hc2 : c < 9223372036854775808) :
    SlB g (.slice (some (if c = k then ⟨g, o, none⟩ else ⟨g, o + k, none⟩)) (l.length - k) (c - k)) (l.drop k) w := by
  by_cases h : c = k
  · rw [if_pos h]
    have : l.drop k = [] := by simp; omega
    rw [this]
    exact ⟨o, c - k, by simp; omega, by simp, by omega, Rd.nil _ _ _⟩
  · rw [if_neg h]
    exact ⟨o + k, c - k, by simp, by simp; omega, by omega, hr.drop k⟩
theorem SlB.dropAt {g : Nat} {o n c k : Nat} {l : List By} {w : World} (hr : Rd g o l w) (hk : k ≤ l.length) (hc : l.length ≤ c) (hc2 : c < 9223372036854775808) :
    SlB g (.slice (some ⟨g, o + k, none⟩) (l.length - k) (c - k)) (l.drop k) w := ⟨o + k, c - k, by simp, by simp; omega, by omega, hr.drop k⟩
theorem SlB.stay {g : Nat} {o n c k : Nat} {l : List By} {w : World} (hk : k = l.length) (hc : k = c) :
    SlB g (.slice (some ⟨g, o, none⟩) (l.length - k) (c - k)) (l.drop k) w := by
  subst hk; rw [List.drop_length]; exact ⟨o, c - l.length, by simp, by simp, by omega, Rd.nil _ _ _⟩
end Go.Proofs.Ytdeefemeiggolaa

namespace Go.Proofs.Ytdeefemeiggolaa
open Go.RowKit
set_option linter.unusedVariables false

/-! ### A digest in memory -/
def dcells (tot : Nat) (rest : List By) (ext : List Value) : List Value := .int .u64 tot :: (rest.map bv ++ ext)
def DB (T g tot : Nat) (rest : List By) (ext : List Value) (w : World) : Prop := w.heap[g]? = some (.cells (dcells tot rest ext).toArray T)
def ext32 (s : BitVec 32) (x : La 32) : List Value := [.int .u32 s.toNat, .int .u32 x.a.toNat, .int .u32 x.b.toNat, .int .u32 x.c.toNat, .int .u32 x.d.toNat]
def ext64 (s : BitVec 64) (x : La 64) : List Value := [.int .u64 s.toNat, .int .u64 x.a.toNat, .int .u64 x.b.toNat, .int .u64 x.c.toNat, .int .u64 x.d.toNat]
theorem DB.lt {T g tot : Nat} {rest : List By} {ext : List Value} {w : World} (h : DB T g tot rest ext w) : g < w.heap.size := (Array.getElem?_eq_some_iff.1 h).1
theorem DB.kept {T g tot : Nat} {rest : List By} {ext : List Value} {w w' : World} {X : Nat → Prop} (h : DB T g tot rest ext w) (f : Fr X w w') (hx : ¬ X g) : DB T g tot rest ext w' := (f.block g h.lt hx).trans h
theorem DB.nw {T g tot : Nat} {rest : List By} {ext : List Value} {w w' : World} (h : DB T g tot rest ext w) (f : Nw w w') : DB T g tot rest ext w' := h.kept f (fun h => h)
theorem DB.cell {T g tot : Nat} {rest : List By} {ext : List Value} {w : World} (h : DB T g tot rest ext w) (j : Nat) (v : Value) (hv : (dcells tot rest ext)[j]? = some v) : w.cell? ⟨g, j, none⟩ = some v := by
  unfold DB at h
  simp [World.cell?, h, hv]
theorem DB.tot {T g tot : Nat} {rest : List By} {ext : List Value} {w : World} (h : DB T g tot rest ext w) : w.cell? ⟨g, 0, none⟩ = some (.int .u64 tot) := h.cell 0 _ rfl
theorem DB.rd {T g tot : Nat} {rest : List By} {ext : List Value} {w : World} (h : DB T g tot rest ext w) : Rd g 1 rest w := fun j hj => h.cell _ _ (by
  rw [Nat.add_comm]
  simp [dcells, List.getElem?_append_left, hj])
theorem DB.ext {T g tot : Nat} {rest : List By} {ext : List Value} {w : World} (h : DB T g tot rest ext w) (hr : rest.length = 32) (j : Nat) (v : Value) (hv : ext[j]? = some v) : w.cell? ⟨g, 33 + j, none⟩ = some v := h.cell _ _ (by
  rw [show 33 + j = (32 + j) + 1 by omega]
  simp only [dcells, List.getElem?_cons_succ]
  rw [List.getElem?_append_right (by simp; omega)]
  simp [hr, hv])
theorem held_any (T g tot : Nat) (rest : List By) (ext : List Value) (size : Nat) (hs : 0 < size) (hs2 : size < 1000) (ht : tot < 18446744073709551616) (w : World) (h : DB T g tot rest ext w) : Calls Try.prog 88 #[.pointer (some ⟨g, 0, none⟩), .int .i64 size] w fun e w' => e = .returned (.int .i64 ((tot % size : Nat) : Int)) ∧ Nw w w' := by
  have h0 := h.tot
  have hm : tot % size < size := Nat.mod_lt _ hs
  clear h
  go_enter Try.func88, Try.ntmps88
  go_wp2
  go_ret
  exact ⟨congrArg (fun z => Ending.returned (.int .i64 z)) (by simp), Fr.refl _ _⟩
set_option maxHeartbeats 4000000 in
theorem new32_any (s : BitVec 32) (z : Int) (hz : z = s.toNat) (w : World) : Calls Try.prog 68 #[.int .u32 z] w fun e w' => e = .returned (.pointer (some ⟨w.heap.size, 0, none⟩)) ∧ Nw w w' ∧ DB 138 w.heap.size 0 (List.replicate 32 0#8) (ext32 s (ini32 s)) w' ∧ w'.heap.size = w.heap.size + 1 := by
  subst hz
  have e1 : Hid (((ini32 s).a.toNat : Int) = ((s.toNat : Int) + 2654435761 + 2246822519) % 4294967296) := by show _ = _; rw [ini32, i_add32, i_add32]; simp
  have e2 : Hid (((ini32 s).b.toNat : Int) = ((s.toNat : Int) + 2246822519) % 4294967296) := by show _ = _; rw [ini32, i_add32]; rfl
  have e4 : Hid (((ini32 s).d.toNat : Int) = ((s.toNat : Int) - 2654435761) % 4294967296) := by show _ = _; rw [ini32, i_sub32]; rfl
  have e3 : Hid ((ini32 s).c = s) := rfl
  generalize ini32 s = I at *
  go_enter Try.func68, Try.ntmps68
  go_wp2
  go_ret
  refine ⟨rfl, (Fr.refl _ _).alloc _, ?_, by simp⟩
  show (w.heap.push _)[w.heap.size]? = _
  simp only [Array.getElem?_push_size, dcells, ext32, e1.out, e2.out, e4.out, e3.out]
  rfl
set_option maxHeartbeats 4000000 in
set_option maxRecDepth 100000 in
theorem pieces_any (g : Nat) (v : Value) (l : List By) (size : Nat) (hs : 0 < size) (hs2 : size < 1000) (c : Nat) (eg : ∀ args w, (callFunc c args).run Try.prog w = .ok (.enter c args) w) (cap : Array Value) (w : World) (I : Nat → World → Prop)
    (h0 : I 0 w) (hst : ∀ k W, I k W → SlB g v l W)
    (step : ∀ k W u, I k W → (k + 1) * size ≤ l.length → SlB g u ((l.drop (k * size)).take size) W → Calls Try.prog c (#[u] ++ cap) W fun e w' => (∃ r, e = .returned r) ∧ I (k + 1) w') :
    Calls Try.prog 87 #[v, .int .i64 size, .func (.func c) #[] cap] w fun e w' => ∃ u, e = .returned u ∧ SlB g u (l.drop (l.length / size * size)) w' ∧ I (l.length / size) w' := by
  obtain ⟨o, cp, rfl, hcp, hcp2, hr⟩ := hst 0 w h0
  have hst : Hid (∀ k W, I k W → Rd g o l W) := by
    intro k W hk
    obtain ⟨o', cp', hv, _, _, hr'⟩ := hst k W hk
    injection hv with hv _ _
    injection hv with hv
    injection hv with _ hv
    subst hv; exact hr'
  have step : Hid (∀ k W u, I k W → (k + 1) * size ≤ l.length → SlB g u ((l.drop (k * size)).take size) W → Calls Try.prog c (#[u] ++ cap) W fun e w' => (∃ r, e = .returned r) ∧ I (k + 1) w') := step
  have FIN : Hid (∀ k W o' c', I k W → k * size ≤ l.length → l.length - k * size < size → l.length - k * size ≤ c' → c' < 9223372036854775808 → (l.length - k * size = 0 ∨ o' = o + k * size) → SlB g (.slice (some ⟨g, o', none⟩) (l.length - k * size) c') (l.drop (l.length / size * size)) W ∧ I (l.length / size) W) := by
    intro k W o' c' hk h1 h2 h3 h4 h5
    have e : l.length / size = k := by
      rw [Nat.div_eq_iff hs]; omega
    rw [e]
    refine ⟨⟨o', c', by simp, by simp; omega, h4, ?_⟩, hk⟩
    rcases h5 with h5 | h5
    · have : l.drop (k * size) = [] := by simp; omega
      rw [this]; exact Rd.nil _ _ _
    · rw [h5]; exact (hst.out k W hk).drop _
  clear hr
  go_enter Try.func87, Try.ntmps87
  go_wp2
  go_loopg [0] l.length (fun kx t0 wr => ∃ (k o' c' m : Nat), t0 = .slice (some ⟨g, o', none⟩) m c' ∧ m + k * size = l.length ∧ m ≤ kx ∧ m ≤ c' ∧ c' < 9223372036854775808 ∧ (m = 0 ∨ o' = o + k * size) ∧ I k wr)
  case atStart => exact ⟨0, o, cp, l.length, rfl, by omega, Nat.le_refl _, hcp, hcp2, .inr (by omega), h0⟩
  case round =>
    obtain ⟨k, o', c', m, rfl, hm, hkx, hmc, hc2, ho, hI⟩ := hrel
    by_cases hge : size ≤ m
    · have hz : (size : Int) ≤ (m : Int) := by omega
      have hz2 : (size : Int) ≤ (c' : Int) := by omega
      have hne : ¬ c' = 0 := by omega
      have ho : o' = o + k * size := by rcases ho with h | h; omega; exact h
      subst ho
      have HC : Hid (∀ u, SlB g u ((l.drop (k * size)).take size) wr → Calls Try.prog c (#[u] ++ cap) wr fun e w' => (∃ r, e = .returned r) ∧ I (k + 1) w') := fun u hu => step.out k wr u hI (by rw [Nat.add_mul]; omega) hu
      have HS : Hid (SlB g (.slice (some ⟨g, o + k * size, none⟩) size c') ((l.drop (k * size)).take size) wr) :=
        ⟨o + k * size, c', by simp; omega, by simp; omega, hc2, ((hst.out k wr hI).drop _).take _⟩
      have hq : Hid (m + k * size = l.length) := hm
      clear hm
      have hks : Hid (∀ x, x = k * size → x + size = (k + 1) * size) := by intro x hx; rw [Nat.add_mul, hx]; omega
      have hks' := hks.out _ rfl
      generalize hke : k * size = ks at *
      have hke' : Hid (k * size = ks) := hke
      clear hke
      by_cases hcs : c' = size
      · subst hcs
        go_wp2_with (go_at_fn c; refine (HC.out _ HS.out).mono ?_; rintro e w1 ⟨⟨r, rfl⟩, hI1⟩)
        go_roundg (m - c')
        case measure => omega
        case rel => exact ⟨k + 1, _, _, _, rfl, by have := hq.out; omega, by omega, by omega, by omega, .inl (by omega), hI1⟩
      · have hcs' : ¬ size = c' := fun h => hcs h.symm
        go_wp2_with (go_at_fn c; refine (HC.out _ HS.out).mono ?_; rintro e w1 ⟨⟨r, rfl⟩, hI1⟩)
        go_roundg (m - size)
        case measure => omega
        case rel => exact ⟨k + 1, _, _, _, rfl, by have := hq.out; omega, by omega, by omega, by omega, .inr (by omega), hI1⟩
    · have hlt : (m : Int) < (size : Int) := by omega
      have hm' : m = l.length - k * size := by omega
      have F := FIN.out k wr o' c' hI (by omega) (by omega) (by omega) hc2 (by rw [← hm']; exact ho)
      rw [← hm'] at F
      have F : Hid (SlB g (.slice (some ⟨g, o', none⟩) m c') (l.drop (l.length / size * size)) wr ∧ I (l.length / size) wr) := F
      clear hm' hm
      go_wp2
      go_ret
      exact ⟨_, rfl, F.out⟩
/-- Of nil there are no pieces. -/
theorem pieces_nil (a : Option Addr) (size : Nat) (hs : 0 < size) (c : Nat) (cap : Array Value) (w : World) : Calls Try.prog 87 #[.slice a 0 0, .int .i64 size, .func (.func c) #[] cap] w fun e w' => e = .returned (.slice a 0 0) ∧ Nw w w' := by
  have h1 : (0 : Int) < (size : Int) := by omega
  go_enter Try.func87, Try.ntmps87
  go_wp2
  go_loopg [0] 1 (fun kx t0 wr => t0 = .slice a 0 0 ∧ wr = w)
  case atStart => exact ⟨rfl, rfl⟩
  case round =>
    obtain ⟨rfl, rfl⟩ := hrel
    go_wp2
    go_ret
    exact ⟨rfl, Fr.refl _ _⟩
/-- A digest's block anew. -/
theorem DB.of {T g tot : Nat} {rest : List By} {ext : List Value} {w w' : World} (h : w'.heap[g]? = some (.cells (dcells tot rest ext).toArray T)) : DB T g tot rest ext w' := h
end Go.Proofs.Ytdeefemeiggolaa

namespace Go.Proofs.Ytdeefemeiggolaa
open Go.RowKit
set_option linter.unusedVariables false
/-- The lanes, of which the first i are new. -/
def La.upto {n : Nat} (x y : La n) (i : Nat) : La n := ⟨if 0 < i then y.a else x.a, if 1 < i then y.b else x.b, if 2 < i then y.c else x.c, if 3 < i then y.d else x.d⟩
theorem La.upto0 {n : Nat} (x y : La n) : La.upto x y 0 = x := rfl
theorem La.upto4 {n : Nat} (x y : La n) : La.upto x y 4 = y := rfl
theorem upto_at0 {n : Nat} (x y : La n) : (La.upto x y 0).a = x.a := by simp [La.upto]
theorem upto_at1 {n : Nat} (x y : La n) : (La.upto x y 1).b = x.b := by simp [La.upto]
theorem upto_at2 {n : Nat} (x y : La n) : (La.upto x y 2).c = x.c := by simp [La.upto]
theorem upto_at3 {n : Nat} (x y : La n) : (La.upto x y 3).d = x.d := by simp [La.upto]
theorem mod_split (n size : Nat) : n / size * size + n % size = n := by have := Nat.div_add_mod n size; rw [Nat.mul_comm] at this; exact this
def joN (x : La 64) (J : BitVec 64) : Nat → BitVec 64
  | 0 => J
  | 1 => jo64 J x.a
  | 2 => jo64 (jo64 J x.a) x.b
  | 3 => jo64 (jo64 (jo64 J x.a) x.b) x.c
  | _ => jo64 (jo64 (jo64 (jo64 J x.a) x.b) x.c) x.d
theorem i_xa32 (h : BitVec 32) : bits .xor .u32 (h.toNat : Int) ((h.toNat : Int) / 32768) * 2246822519 % 4294967296 = ((xa32 h).toNat : Int) := by
  rw [xa32, i_mul32, ← i_xor32, i_shr]; rfl
theorem i_xb32 (h : BitVec 32) : bits .xor .u32 (h.toNat : Int) ((h.toNat : Int) / 8192) * 3266489917 % 4294967296 = ((xb32 h).toNat : Int) := by
  rw [xb32, i_mul32, ← i_xor32, i_shr]; rfl
theorem i_xc32 (h : BitVec 32) : bits .xor .u32 (h.toNat : Int) ((h.toNat : Int) / 65536) = ((xc32 h).toNat : Int) := by
  rw [xc32, ← i_xor32, i_shr]; rfl
theorem i_xa64 (h : BitVec 64) : bits .xor .u64 (h.toNat : Int) ((h.toNat : Int) / 8589934592) * 14029467366897019727 % 18446744073709551616 = ((xa64 h).toNat : Int) := by
  rw [xa64, i_mul64, ← i_xor64, i_shr]; rfl
theorem i_xb64 (h : BitVec 64) : bits .xor .u64 (h.toNat : Int) ((h.toNat : Int) / 536870912) * 1609587929392839161 % 18446744073709551616 = ((xb64 h).toNat : Int) := by
  rw [xb64, i_mul64, ← i_xor64, i_shr]; rfl
theorem i_xc64 (h : BitVec 64) : bits .xor .u64 (h.toNat : Int) ((h.toNat : Int) / 4294967296) = ((xc64 h).toNat : Int) := by
  rw [xc64, ← i_xor64, i_shr]; rfl
theorem mod1 (n : Nat) : n / 1 = n := Nat.div_one n
end Go.Proofs.Ytdeefemeiggolaa

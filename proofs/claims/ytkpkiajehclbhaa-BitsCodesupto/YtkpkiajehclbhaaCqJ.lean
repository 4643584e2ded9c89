import Derived.Test.YtkpkiajehclbhaaCqI
namespace Go.Proofs.Ytkpkiajehclbhaa
open Go.RowKit
set_option linter.unusedVariables false
variable {ls : List Nat}
/-- A copy of bytes: append([]byte{}, x...). -/
theorem copy_bytes (w : World) (x : Value) (l : List By) (hx : Sl (fun _ => False) x l w) (hl : l.length ≤ 200000000000000) : ∃ g c W, Hid (∀ ty, (Builtin.append_ #[22, 22] ty #[.slice (some ⟨w.heap.size, 0, none⟩) 0 0, x]).run Try.prog (w.alloc (.cells #[] 5)) = .ok (.slice (some ⟨g, 0, none⟩) l.length c) W) ∧ Ow g (.slice (some ⟨g, 0, none⟩) l.length c) l W ∧ w.heap.size ≤ g ∧ Nw w W := by
  obtain ⟨v, g, W, hap, hO, hF, hg⟩ := app_any (w.alloc (.cells #[] 5)) w.heap.size _ [] (Ow.empty w) x l (hx.nw ((Fr.refl _ _).alloc _)) (by simp; omega)
  rw [List.nil_append] at hO
  have hO' := hO
  obtain ⟨xs, rfl, _⟩ := hO'
  refine ⟨g, xs.length, W, hap, hO, ?_, Fr.then ((Fr.refl _ _).alloc _) hF (fun i hi => .inr (by omega))⟩
  have e2 : (w.alloc (.cells #[] 5)).heap.size = w.heap.size + 1 := by simp
  rcases hg with h | h <;> omega
/-- How the law reads: the code, the reader at bit p, the document's bits. -/
structure BcR (w : World) (ls : List Nat) (cb gw gs : Nat) (ws : List (Nat × Nat)) (ss : List Int) (K : Nat → Prop) (rb : Nat) (vb : Value) (b : List By) (ga ca p : Nat) (wr : World) : Prop where
  r : Rr 82 K rb vb b p wr
  c : CodeI cb gw gs ls ws ss wr
  a : Ow ga (.slice (some ⟨ga, 0, none⟩) (8 * b.length) ca) (bl (le b) (8 * b.length)) wr
  n1 : rb ≠ cb
  n2 : rb ≠ gw
  n3 : rb ≠ gs
  n4 : rb ≠ ga
  lo : w.heap.size ≤ rb
  nw : Nw w wr
  pl : p ≤ 8 * b.length
variable {w : World} {cb gw gs : Nat} {ws : List (Nat × Nat)} {ss : List Int} {K : Nat → Prop} {rb : Nat} {vb : Value} {b : List By} {ga ca p : Nat} {wr : World}
theorem BcR.keep {V : World} (h : BcR w ls cb gw gs ws ss K rb vb b ga ca p wr) (k : Nw wr V) : BcR w ls cb gw gs ws ss K rb vb b ga ca p V :=
  ⟨h.r.nw k, h.c.nw k, h.a.nw k, h.n1, h.n2, h.n3, h.n4, h.lo, h.nw.trans k, h.pl⟩
theorem BcR.cap (h : BcR w ls cb gw gs ws ss K rb vb b ga ca p wr) : 8 * b.length ≤ ca ∧ ca < 9223372036854775808 := by
  obtain ⟨xs, e, _, h3, h4, _⟩ := h.a
  rw [bl_length] at e h3
  have : ca = xs.length := by
    generalize xs.length = q at e
    cases e
    rfl
  omega
/-- The bits that are left. -/
theorem BcR.rest (h : BcR w ls cb gw gs ws ss K rb vb b ga ca p wr) (q : Nat) (hq : q ≤ 8 * b.length) : Sl (fun _ => False) (.slice (some ⟨ga, q, none⟩) (8 * b.length - q) (ca - q)) (bl (le b / 2 ^ q) (8 * b.length - q)) wr := by
  obtain ⟨c1, c2⟩ := h.cap
  obtain ⟨xs, e, h2, h3, h4, h5⟩ := h.a
  refine .inr ⟨ga, fun h => h, q, ca - q, by rw [bl_length], by rw [bl_length]; omega, by omega, ?_⟩
  have hr := (h5.rd.take (bl (le b) (8 * b.length)).length)
  rw [h2] at hr
  have := hr.drop q
  rw [bl_drop, Nat.zero_add] at this
  exact this
theorem BcR.rest2 (h : BcR w ls cb gw gs ws ss K rb vb b ga ca p wr) (q : Nat) (hq : q ≤ 8 * b.length) (o c' : Nat) (ho : (o = q ∧ c' = ca - q) ∨ (ca = q ∧ c' = 0)) : Sl (fun _ => False) (.slice (some ⟨ga, o, none⟩) (8 * b.length - q) c') (bl (le b / 2 ^ q) (8 * b.length - q)) wr := by
  rcases ho with ⟨rfl, rfl⟩ | ⟨h1, rfl⟩
  · exact h.rest o hq
  · have := h.cap
    have e : 8 * b.length - q = 0 := by omega
    rw [e]
    exact .inl ⟨_, rfl, rfl⟩
/-- What comes of a reading. -/
def BcN (w : World) (ls : List Nat) (cb gw gs : Nat) (ws : List (Nat × Nat)) (ss : List Int) (K : Nat → Prop) (rb : Nat) (vb : Value) (b : List By) (ga ca p s n g : Nat) (wr : World) : Prop := BcR w ls cb gw gs ws ss K rb vb b ga ca (p + n) wr ∧ ∀ s' n' g', SRaw ls (le b / 2 ^ p) (8 * b.length - p) s' n' g' → s' = s ∧ n' = n ∧ g' = g
theorem BcR.read (h : BcR w ls cb gw gs ws ss K rb vb b ga ca p wr) (hk : Cod ls) : Calls Try.prog 37 #[.pointer (some ⟨cb, 0, none⟩), .pointer (some ⟨rb, 0, none⟩)] wr fun e w1 => ∃ s n g : Nat, e = .returned (.tuple #[.int .i64 s, .int .i64 g]) ∧ n ≤ 15 ∧ g ≤ 52 ∧ p + n ≤ 8 * b.length ∧ BcN w ls cb gw gs ws ss K rb vb b ga ca p s n g w1 := by
  have hlt : le b / 2 ^ p < 2 ^ (8 * b.length - p) := by
    have h1 := le_lt b
    rw [pow256] at h1
    rw [Nat.div_lt_iff_lt_mul (Nat.two_pow_pos _), ← Nat.pow_add, show 8 * b.length - p + p = 8 * b.length by have := h.pl; omega]
    exact h1
  refine (read_any h.c hk h.r h.pl h.n1 h.n2 h.n3).mono ?_
  intro e w1 hA
  rcases hA with ⟨i, a1, a2, rfl, a4, a5⟩ | ⟨i, a1, a2, rfl, a4⟩ | ⟨a1, rfl, a3⟩
  · have h15 := hk.each i
    have hp := h.pl
    refine ⟨i, ls.getD i 0, 0, rfl, h15, by omega, by omega, ⟨a4, h.c.kept a5 (fun e => h.n1 e.symm) (fun e => h.n2 e.symm) (fun e => h.n3 e.symm), h.a.kept a5 (fun e => h.n4 e.symm), h.n1, h.n2, h.n3, h.n4, h.lo, Fr.then h.nw a5 (fun k hk => .inr (by rw [hk]; exact h.lo)), by omega⟩, ?_⟩
    intro s' n' g' hs
    exact raw_found hk a1 a2 hs
  · refine ⟨0, 0, 50, rfl, by omega, by omega, h.pl, h.keep a4, fun s' n' g' hs => raw_short hk hlt a1 a2 hs⟩
  · refine ⟨0, 0, 52, rfl, by omega, by omega, h.pl, h.keep a3, fun s' n' g' hs => raw_none hk hlt a1 hs⟩
end Go.Proofs.Ytkpkiajehclbhaa
